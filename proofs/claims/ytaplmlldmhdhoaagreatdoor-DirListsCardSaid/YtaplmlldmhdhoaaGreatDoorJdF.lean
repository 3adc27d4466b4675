/- JdD, JdE, JdF in one text. -/
import Derived.Test.YtaplmlldmhdhoaaGreatDoorJdC
/- visit. -/
namespace Go.Proofs.YtaplmlldmhdhoaaGreatDoor
open Go.RowKit Go.Maps
set_option linter.unusedVariables false
variable {w : World} {pv n N D hi : Nat} {S T : Nat → Prop} {i : Int} {base : Value} {P : Int → Option (List Int)} {bc c : Nat → List Int} {ptr : Nat → Nat} {L : List Ln} {X : Array Value} {J Jx : List Ln → (Nat → Prop) → World → Prop} {pe : Addr} {Fs : FuncId} {caps : Array Value} {Z : Nat → Prop}
set_option maxRecDepth 100000 in
set_option maxHeartbeats 1000000 in
theorem visit_any (hD : Dw w pv S N i base T bc n P c) (hd : Dd N D hi c ptr L) (hX : InoIs X ((L.length * 32 : Nat) : Int) ptr) (from_ : Nat) (hs : See J Jx pe Fs caps from_) (hen : ∀ ls Z W, J ls Z W → En0 W pe) (henx : ∀ ls Z W, Jx ls Z W → En0 W pe) (hf : from_ < 4611686018427387904) (hJ : J [] Z w) (hZ : ∀ g, Z g → ¬ S g ∧ ¬ T g) :
    Calls Tryz.prog 26 #[ptrV pv, .agg X, n64 from_, seeV Fs caps] w fun e w' => e = .returned .nilIface ∧ ∃ Z', (∀ g, Z' g → Z g ∨ w.heap.size ≤ g) ∧ Mods Z w w' ∧ (J (L.drop from_) Z' w' ∨ ∃ q, from_ ≤ q ∧ q ≤ L.length ∧ Jx (seen L from_ q) Z' w') := by
  have hXs := hX.sz
  obtain ⟨W1, hW1⟩ : ∃ W, W = w.alloc (.cells X 31) := ⟨_, rfl⟩
  obtain ⟨b, hb⟩ : ∃ b, w.heap.size = b := ⟨_, rfl⟩
  have h1 : W1.heap[b]? = some (.cells X 31 (0, 0)) := by rw [hW1, ← hb]; exact alloc_new w _
  have b1 : Below w.heap.size w W1 := by rw [hW1]; exact (Below.refl _ _).alloc (Nat.le_refl _) _
  have hZw : ∀ g, Z g → g < w.heap.size := fun g hg => by
    obtain ⟨cs, t, f, h⟩ := hs.cells _ _ _ hJ g hg
    exact (Array.getElem?_eq_some_iff.1 h).1
  have HSA := hid (showAll_any (hD.later b1) hd hX from_ hs hf (hs.keep _ _ _ _ hJ b1.size (fun g hg => b1.block g (hZw g hg))) hZ)
  have HEN := hid (And.intro hen henx)
  have HH1 := hid h1
  have HB1 := hid b1
  have HXS := hid hXs
  have HBW := hid hb
  clear hD hd hX hs hen henx hf hJ hZ hXs h1 b1 hZw
  go_enter Tryz.func26, Tryz.ntmps26
  go_wp2_with (first | (rw [← hW1]; clear hW1) | (rw [hb]; clear hb) | (refine wpList_load_row rfl 31 _ rfl b rfl 31 X (0, 0) _ HH1.out Tryz.underlying31 rfl (by rw [HXS.out]; exact sizeIno) ?_))
  refine HSA.out.mono ?_
  rintro e w2 ⟨Z', hz, hm, hor⟩
  have HZ : Hid (∀ g, Z' g → Z g ∨ w.heap.size ≤ g) := hid (fun g hg => (hz g hg).imp id (fun h => Nat.le_trans HB1.out.size h))
  have HM := hid ((Mods.of_below (al := Z) HB1.out).tr hm)
  clear hz hm HSA
  rcases hor with ⟨rfl, hj⟩ | ⟨q, hq1, hq2, rfl, hj⟩
  · have x0 := (HEN.out.1 _ _ _ hj).cell
    have HJ := hid hj
    clear hj
    go_wp2_with fail
    refine (is_none pe w2).mono ?_
    rintro e w3 ⟨rfl, hw3⟩
    rw [hw3]
    clear hw3
    go_wp2
    go_ret
    exact ⟨rfl, Z', HZ.out, HM.out, .inl HJ.out⟩
  · have x0 := (HEN.out.2 _ _ _ hj).cell
    have HJ := hid (And.intro hq1 (And.intro hq2 hj))
    clear hj hq1 hq2
    go_wp2_with fail
    refine (is_enough pe w2).mono ?_
    rintro e w3 ⟨rfl, hw3⟩
    rw [hw3]
    clear hw3
    go_wp2
    go_ret
    exact ⟨rfl, Z', HZ.out, HM.out, .inr ⟨q, HJ.out⟩⟩
end Go.Proofs.YtaplmlldmhdhoaaGreatDoor

/- search: the one who is shown lines. -/
namespace Go.Proofs.YtaplmlldmhdhoaaGreatDoor
open Go.RowKit Go.Maps
set_option linter.unusedVariables false
/-- Does a line have that name? -/
def Has (nm : List Int) (x : Ln) : Prop := x.i ≠ 0 ∧ x.nm = nm
/-- The first one that is free, else len. -/
def roomF (len : Nat) (ls : List Ln) : Nat := if ls.findIdx (fun x => x.i == 0) < ls.length then min len (ls.findIdx (fun x => x.i == 0)) else len
theorem roomF_nil (len : Nat) : roomF len [] = len := rfl
theorem roomF_free (len : Nat) (ls : List Ln) (x : Ln) (hx : x.i = 0) : roomF len (ls ++ [x]) = min (roomF len ls) ls.length := by
  unfold roomF
  rw [List.findIdx_append]
  by_cases h : ls.findIdx (fun x => x.i == 0) < ls.length
  · rw [if_pos h, if_pos h, if_pos (by simp; omega)]
    omega
  · have h1 : ls.findIdx (fun x => x.i == 0) = ls.length := by have := List.findIdx_le_length (p := fun x : Ln => x.i == 0) (xs := ls); omega
    rw [if_neg h, if_neg h]
    have h2 : List.findIdx (fun x : Ln => x.i == 0) [x] = 0 := by simp [List.findIdx_cons, hx]
    rw [h2, if_pos (by simp)]
    omega
theorem roomF_taken (len : Nat) (ls : List Ln) (x : Ln) (hx : x.i ≠ 0) : roomF len (ls ++ [x]) = roomF len ls := by
  unfold roomF
  rw [List.findIdx_append]
  by_cases h : ls.findIdx (fun x => x.i == 0) < ls.length
  · rw [if_pos h, if_pos h, if_pos (by simp; omega)]
  · rw [if_neg h, if_neg h]
    have h3 : (x.i == 0) = false := by rw [beq_eq_false_iff_ne]; exact hx
    have h2 : List.findIdx (fun x : Ln => x.i == 0) [x] = 1 := by simp [List.findIdx_cons, h3]
    rw [h2, if_neg (by simp; omega)]
theorem roomF_le (len : Nat) (ls : List Ln) : roomF len ls ≤ len := by unfold roomF; split <;> omega
theorem lenStr_empty : (⟨#[]⟩ : ByteArray) = strOfNums [] := rfl
/-- What it holds by then. -/
structure SrC (og : Option Obj) (W : World) (pe : Addr) (rb nb fb len : Nat) (nm : List Int) (ls : List Ln) : Prop where
  en : En0 W pe
  g : W.heap[0]? = og
  r : W.heap[rb]? = some (.cells #[n64 (roomF len ls)] 3 (0, 0))
  n : W.heap[nb]? = some (.cells #[.string (strOfNums nm)] 9 (0, 0))
  f : W.heap[fb]? = some (.cells #[n64 0, n64 0, .string ⟨#[]⟩] 42 (0, 0))
  no : ∀ x ∈ ls, ¬ Has nm x
structure Apart4 (a b c d : Nat) : Prop where
  ab : a ≠ b
  ac : a ≠ c
  ad : a ≠ d
  bc : b ≠ c
  bd : b ≠ d
  cd : c ≠ d
set_option maxRecDepth 100000 in
set_option maxHeartbeats 2000000 in
theorem search1_any {og : Option Obj} (W : World) {pe : Addr} {rb nb fb len : Nat} {nm : List Int} {ls : List Ln} (h : SrC og W pe rb nb fb len nm ls) (hap : Apart4 0 rb nb fb) (hnm : ∀ y ∈ nm, IsB y) (hlen : len ≤ 96) (x : Ln) (hx : LnOk x) (hl : ls.length < 97) :
    Calls Tryz.prog 39 #[lnV ls.length x, ptrV rb, ptrV nb, ptrV fb] W fun e W' => Mods (fun g => g = rb ∨ g = fb) W W' ∧ ((e = .returned .nilIface ∧ SrC og W' pe rb nb fb len nm (ls ++ [x])) ∨ (e = .returned (enoughV pe) ∧ Has nm x ∧ En0 W' pe ∧ W'.heap[0]? = W.heap[0]? ∧ W'.heap[nb]? = W.heap[nb]? ∧ W'.heap[rb]? = W.heap[rb]? ∧ W'.heap[fb]? = some (.cells #[n64 ls.length, n64 x.i, .string (strOfNums x.nm)] 42 (0, 0)))) := by
  unfold lnV
  obtain ⟨p, hp⟩ : ∃ p, p = ls.length := ⟨_, rfl⟩
  rw [← hp]
  obtain ⟨q, hq⟩ : ∃ q, W.heap.size = q := ⟨_, rfl⟩
  obtain ⟨W1, hW1⟩ : ∃ V, V = W.alloc (.cells #[n64 p, n64 x.i, .string (strOfNums x.nm)] 42) := ⟨_, rfl⟩
  have h1 : W1.heap[q]? = some (.cells #[n64 p, n64 x.i, .string (strOfNums x.nm)] 42 (0, 0)) := by rw [hW1, ← hq]; exact alloc_new W _
  have b1 : Below W.heap.size W W1 := by rw [hW1]; exact (Below.refl _ _).alloc (Nat.le_refl _) _
  have lr := (Array.getElem?_eq_some_iff.1 h.r).1
  have ln := (Array.getElem?_eq_some_iff.1 h.n).1
  have lf := (Array.getElem?_eq_some_iff.1 h.f).1
  have HH1 := hid h1
  have HB1 := hid b1
  have HH := hid h
  have HL := hid (And.intro lr (And.intro ln lf))
  have HAP := hid hap
  have HP := hid hp
  have hpb : p < 97 := by omega
  by_cases hi : x.i = 0
  · have HF := isFree_yes W1 (n64 p) (strOfNums x.nm)
    replace HF := hid HF
    have HHI := hid hi
    rw [hi] at hW1 h1
    have HH1' := hid h1
    obtain ⟨R, hR⟩ : ∃ R, R = roomF len ls := ⟨_, rfl⟩
    have HR := hid hR
    rw [hi]
    clear h hap lr ln lf b1 h1 hi hR hp
    go_enter Tryz.func39, Tryz.ntmps39
    go_wp2_with (first | (rw [← hW1]; clear hW1) | (rw [hq]; clear hq) | (refine wpList_load_row rfl 42 _ rfl q rfl 42 _ (0, 0) _ HH1'.out Tryz.underlying42 rfl sizeLn ?_))
    refine HF.out.mono ?_
    rintro e w2 ⟨rfl, hb2⟩
    have hb02 := HB1.out.trans (hb2.mono HB1.out.size)
    have r2 : w2.heap[rb]? = some (.cells #[n64 R] 3 (0, 0)) := (hb02.block rb HL.out.1).trans (by rw [HR.out]; exact HH.out.r)
    have y0 : w2.cell? ⟨rb, 0, none⟩ = some (n64 R) := cell_of r2 rfl
    have z0 : w2.frozen? ⟨rb, 0, none⟩ = false := froz_of r2 0
    have q2 := (hb2.block q (Array.getElem?_eq_some_iff.1 HH1'.out).1).trans HH1'.out
    have y1 : w2.cell? ⟨q, 0, none⟩ = some (n64 p) := cell_of q2 rfl
    have HB2 := hid hb02
    have HR2 := hid r2
    obtain ⟨M, hM⟩ : ∃ M : Nat, min R p = M := ⟨_, rfl⟩
    have u1 : min (R : Int) (p : Int) = (M : Int) := by omega
    have HM := hid hM
    clear hb2 hb02 r2 q2 HF hM
    go_wp2
    go_ret
    have hm : Mods (fun g => g = rb ∨ g = fb) W (w2.setCell ⟨rb, 0, none⟩ (.int .i64 (M : Int))) := (Mods.of_below HB2.out).setCell rb 0 _ (.inl rfl)
    have hne : ∀ g, g ≠ rb → g < W.heap.size → (w2.setCell ⟨rb, 0, none⟩ (.int .i64 (M : Int))).heap[g]? = W.heap[g]? := fun g h1 h2 => by
      rw [Below.heap_setCell _ _ _ _ (fun e => h1 e)]; exact HB2.out.block g h2
    refine ⟨hm, .inl ⟨rfl, HH.out.en.keep (hne _ HAP.out.ab HH.out.en.lt), (hne _ HAP.out.ab HH.out.en.lt).trans HH.out.g, ?_, (hne _ (Ne.symm HAP.out.bc) HL.out.2.1).trans HH.out.n, (hne _ (Ne.symm HAP.out.bd) HL.out.2.2).trans HH.out.f, fun y hy => ?_⟩⟩
    · rw [roomF_free len ls x HHI.out, ← HR.out, ← HP.out, HM.out]
      exact setc HR2.out 0 _
    · rcases List.mem_append.1 hy with h | h
      · exact HH.out.no y h
      · rw [List.mem_singleton.1 h]; exact fun e => e.1 HHI.out
  · have HF := isFree_no W1 (n64 p) x.i (strOfNums x.nm) hi
    replace HF := hid HF
    have HHI := hid hi
    have hse := str_eq (l := x.nm) (m := nm) hx.isB hnm
    clear h hap lr ln lf b1 h1 hi hp
    go_enter Tryz.func39, Tryz.ntmps39
    go_wp2_with (first | (rw [← hW1]; clear hW1) | (rw [hq]; clear hq) | (refine wpList_load_row rfl 42 _ rfl q rfl 42 _ (0, 0) _ HH1.out Tryz.underlying42 rfl sizeLn ?_))
    refine HF.out.mono ?_
    rintro e w2 ⟨rfl, hb2⟩
    have hb02 := HB1.out.trans (hb2.mono HB1.out.size)
    have q2 := (hb2.block q (Array.getElem?_eq_some_iff.1 HH1.out).1).trans HH1.out
    have y1 : w2.cell? ⟨q, 2, none⟩ = some (.string (strOfNums x.nm)) := cell_of q2 rfl
    have n2 := (hb02.block nb HL.out.2.1).trans HH.out.n
    have y2 : w2.cell? ⟨nb, 0, none⟩ = some (.string (strOfNums nm)) := cell_of n2 rfl
    have f2 := (hb02.block fb HL.out.2.2).trans HH.out.f
    have HB2 := hid hb02
    have HQ2 := hid q2
    have HF2 := hid f2
    clear hb2 hb02 q2 n2 f2 HF
    by_cases hn : x.nm = nm
    · rw [decide_eq_true hn] at hse
      have HN := hid hn
      obtain ⟨W3, hW3⟩ : ∃ V, V = w2.setRow fb #[n64 p, n64 x.i, .string (strOfNums x.nm)] := ⟨_, rfl⟩
      have hne : ∀ g, g ≠ fb → g < W.heap.size → W3.heap[g]? = W.heap[g]? := fun g h1 h2 => by
        rw [hW3, setRow_other _ _ _ _ h1]; exact HB2.out.block g h2
      have f3 : W3.heap[fb]? = some (.cells #[n64 p, n64 x.i, .string (strOfNums x.nm)] 42 (0, 0)) := by rw [hW3]; exact setRow_heap w2 fb _ _ _ _ HF2.out
      have e3 : En0 W3 pe := HH.out.en.keep (hne _ HAP.out.ad HH.out.en.lt)
      have x0 := e3.cell
      have hm3 : Mods (fun g => g = rb ∨ g = fb) W W3 := (Mods.of_below HB2.out).trans (al' := fun g => g = fb) (by rw [hW3]; exact setRow_mods w2 fb _) (fun g hg => .inl (.inr hg))
      have HE := hid (And.intro hne (And.intro f3 (And.intro e3 hm3)))
      clear hne f3 e3 hm3 hn
      go_wp2_with (first | (refine wpList_load_row rfl 42 _ rfl q rfl 42 _ (0, 0) _ HQ2.out Tryz.underlying42 rfl sizeLn ?_) | (refine wpList_store_row rfl 42 _ _ rfl fb #[n64 p, n64 x.i, .string (strOfNums x.nm)] rfl rfl 42 _ HF2.out sizeLn rfl (oneLn _ _ _) ?_; rw [← hW3]; clear hW3))
      go_ret
      obtain ⟨hne, f3, e3, hm3⟩ := HE.out
      exact ⟨hm3, .inr ⟨rfl, ⟨HHI.out, HN.out⟩, e3, hne _ HAP.out.ad HH.out.en.lt, hne _ HAP.out.cd HL.out.2.1, hne _ HAP.out.bd HL.out.1, f3⟩⟩
    · rw [decide_eq_false hn] at hse
      have HN := hid hn
      clear hn
      go_wp2
      go_ret
      have hk : ∀ g, g < W.heap.size → w2.heap[g]? = W.heap[g]? := fun g hg => HB2.out.block g hg
      refine ⟨Mods.of_below HB2.out, .inl ⟨rfl, HH.out.en.later HB2.out, (hk _ HH.out.en.lt).trans HH.out.g, ?_, (hk _ HL.out.2.1).trans HH.out.n, (hk _ HL.out.2.2).trans HH.out.f, fun y hy => ?_⟩⟩
      · rw [roomF_taken len ls x HHI.out]; exact (hk _ HL.out.1).trans HH.out.r
      · rcases List.mem_append.1 hy with h | h
        · exact HH.out.no y h
        · rw [List.mem_singleton.1 h]; exact fun e => HN.out e.2
/-- The blocks of its own. -/
def SrZ (rb nb fb : Nat) : Nat → Prop := fun g => g = 0 ∨ g = rb ∨ g = nb ∨ g = fb
def SrJ (og : Option Obj) (pe : Addr) (rb nb fb len : Nat) (nm : List Int) (ls : List Ln) (Z : Nat → Prop) (W : World) : Prop := Z = SrZ rb nb fb ∧ SrC og W pe rb nb fb len nm ls
/-- It has found it. -/
structure SrX (og : Option Obj) (pe : Addr) (rb nb fb : Nat) (nm : List Int) (ls : List Ln) (Z : Nat → Prop) (W : World) : Prop where
  z : Z = SrZ rb nb fb
  en : En0 W pe
  g : W.heap[0]? = og
  r : ∃ v, W.heap[rb]? = some (.cells #[v] 3 (0, 0))
  n : ∃ v, W.heap[nb]? = some (.cells #[v] 9 (0, 0))
  f : ∃ ls0 x, ls = ls0 ++ [x] ∧ Has nm x ∧ (∀ y ∈ ls0, ¬ Has nm y) ∧ W.heap[fb]? = some (.cells #[n64 ls0.length, n64 x.i, .string (strOfNums x.nm)] 42 (0, 0))
theorem callS1 (args : Array Value) (w : World) : (callFunc 39 args).run Tryz.prog w = .ok (.enter 39 args) w := by kernel_rfl
theorem search_see {og : Option Obj} {pe : Addr} {rb nb fb len : Nat} {nm : List Int} (hap : Apart4 0 rb nb fb) (hnm : ∀ y ∈ nm, IsB y) (hlen : len ≤ 96) : See (SrJ og pe rb nb fb len nm) (SrX og pe rb nb fb nm) pe 39 #[ptrV rb, ptrV nb, ptrV fb] 0 where
  cf := callS1
  keep := fun ls Z W W' h _ hk => by
    obtain ⟨rfl, h⟩ := h
    exact ⟨rfl, h.en.keep (hk _ (.inl rfl)), (hk _ (.inl rfl)).trans h.g, (hk _ (.inr (.inl rfl))).trans h.r, (hk _ (.inr (.inr (.inl rfl)))).trans h.n, (hk _ (.inr (.inr (.inr rfl)))).trans h.f, h.no⟩
  keepx := fun ls Z W W' h _ hk => by
    obtain ⟨rfl, h1, hg, ⟨v1, h2⟩, ⟨v2, h3⟩, ls0, x, h4, h5, h6, h7⟩ := h
    exact ⟨rfl, h1.keep (hk _ (.inl rfl)), (hk _ (.inl rfl)).trans hg, ⟨v1, (hk _ (.inr (.inl rfl))).trans h2⟩, ⟨v2, (hk _ (.inr (.inr (.inl rfl)))).trans h3⟩, ls0, x, h4, h5, h6, (hk _ (.inr (.inr (.inr rfl)))).trans h7⟩
  cells := fun ls Z W h g hg => by
    obtain ⟨rfl, h⟩ := h
    obtain ⟨cs, t, f, e1, _⟩ := h.en
    rcases hg with rfl | rfl | rfl | rfl
    · exact ⟨_, _, _, e1⟩
    · exact ⟨_, _, _, h.r⟩
    · exact ⟨_, _, _, h.n⟩
    · exact ⟨_, _, _, h.f⟩
  cellsx := fun ls Z W h g hg => by
    obtain ⟨rfl, ⟨cs, t, f, e1, _⟩, hgg, ⟨v1, h2⟩, ⟨v2, h3⟩, ls0, x, h4, h5, h6, h7⟩ := h
    rcases hg with rfl | rfl | rfl | rfl
    · exact ⟨_, _, _, e1⟩
    · exact ⟨_, _, _, h2⟩
    · exact ⟨_, _, _, h3⟩
    · exact ⟨_, _, _, h7⟩
  call := fun ls x Z W hx hl h => by
    obtain ⟨rfl, h⟩ := h
    rw [Nat.zero_add] at hl ⊢
    refine (search1_any W h hap hnm hlen x hx hl).mono ?_
    rintro e W' ⟨hm, hor⟩
    refine ⟨SrZ rb nb fb, ⟨fun g hg => .inl hg, hm.weak (fun g hg => .inl (by rcases hg with rfl | rfl; exact .inr (.inl rfl); exact .inr (.inr (.inr rfl))))⟩, ?_⟩
    rcases hor with ⟨rfl, h2⟩ | ⟨rfl, h2, h3, hg, h4, h5, h6⟩
    · exact .inl ⟨rfl, rfl, h2⟩
    · exact .inr ⟨rfl, rfl, h3, hg.trans h.g, ⟨_, h5.trans h.r⟩, ⟨_, h4.trans h.n⟩, ls, x, rfl, h2, h.no, h6⟩
end Go.Proofs.YtaplmlldmhdhoaaGreatDoor

/- search. -/
namespace Go.Proofs.YtaplmlldmhdhoaaGreatDoor
open Go.RowKit Go.Maps
set_option linter.unusedVariables false
variable {w : World} {pv n N D hi : Nat} {S T : Nat → Prop} {i : Int} {base : Value} {P : Int → Option (List Int)} {bc c : Nat → List Int} {ptr : Nat → Nat} {L : List Ln} {X : Array Value} {pe : Addr}
abbrev ln0 : Array Value := #[n64 0, n64 0, .string ⟨#[]⟩]
theorem ex_store {o : Oper} {ev : Operand → Value} {W : World} (ty : TypeId) (x y : Operand) (ho : o.op = .store ty x y) (g : Nat) (cells : Array Value) (hx : ev x = .pointer (some ⟨g, 0, none⟩)) (hy : ev y = .agg cells) (t : TypeId) (old : Array Value)
    (hg : W.heap[g]? = some (.cells old t (0, 0))) (hi : (Tryz.prog.info? ty).map (·.size) = some cells.size) (hold : old.size = cells.size) (h1 : cells.all (·.oneCell') = true) : (execOp ev o).run Tryz.prog W = .ok .skip (W.setRow g cells) := by
  unfold execOp
  simp only [ho, hx, hy, Instr.storeAt, Instr.sureAddr, Sem.run_bind, Sem.run_pure, Result.andThen_ok, run_storeVar_row W g t ty old cells hg hi hold h1]
/-- What search answers. -/
def SrA (w w' : World) (L : List Ln) (nm : List Int) (e : Ending) : Prop :=
  (∃ p, p < L.length ∧ Has nm (L.getD p noLn) ∧ (∀ j, j < p → ¬ Has nm (L.getD j noLn)) ∧ e = .returned (.tuple #[lnV p (L.getD p noLn), .nilIface])) ∨
  ((∀ x ∈ L, ¬ Has nm x) ∧ ∃ pa, e = .returned (.tuple #[.agg ln0, .iface 63 (ptrV pa)]) ∧ w.heap.size ≤ pa ∧ w'.heap[pa]? = some (.cells #[n64 2, n64 (roomF L.length L)] 69 (0, 0)))
set_option maxRecDepth 100000 in
set_option maxHeartbeats 4000000 in
theorem search_any (hD : Dw w pv S N i base T bc n P c) (hd : Dd N D hi c ptr L) (hX : InoIs X ((L.length * 32 : Nat) : Int) ptr) (hE : En0 w pe) (hG : ¬ S 0 ∧ ¬ T 0) (nm : List Int) (hnm : ∀ y ∈ nm, IsB y) :
    Calls Tryz.prog 20 #[ptrV pv, .agg X, .string (strOfNums nm)] w fun e w' => Below w.heap.size w w' ∧ SrA w w' L nm e := by
  have hXs := hX.sz
  obtain ⟨b, hb⟩ : ∃ b, w.heap.size = b := ⟨_, rfl⟩
  obtain ⟨W1, hW1⟩ : ∃ W, W = w.alloc (.cells X 31) := ⟨_, rfl⟩
  obtain ⟨W2, hW2⟩ : ∃ W, W = W1.alloc (.cells #[.string (strOfNums nm)] 9) := ⟨_, rfl⟩
  obtain ⟨W3, hW3⟩ : ∃ W, W = W2.alloc (.cells ln0 42) := ⟨_, rfl⟩
  obtain ⟨W4, hW4⟩ : ∃ W, W = W3.alloc (.cells ln0 42) := ⟨_, rfl⟩
  have s1 : W1.heap.size = b + 1 := by rw [hW1]; simp [hb]
  have s2 : W2.heap.size = b + 1 + 1 := by rw [hW2]; simp [s1]
  have s3 : W3.heap.size = b + 1 + 1 + 1 := by rw [hW3]; simp [s2]
  have s4 : W4.heap.size = b + 1 + 1 + 1 + 1 := by rw [hW4]; simp [s3]
  have b1 : Below w.heap.size w W1 := by rw [hW1]; exact (Below.refl _ _).alloc (Nat.le_refl _) _
  have b2 : Below W1.heap.size W1 W2 := by rw [hW2]; exact (Below.refl _ _).alloc (Nat.le_refl _) _
  have b3 : Below W2.heap.size W2 W3 := by rw [hW3]; exact (Below.refl _ _).alloc (Nat.le_refl _) _
  have b4 : Below W3.heap.size W3 W4 := by rw [hW4]; exact (Below.refl _ _).alloc (Nat.le_refl _) _
  have b34 := b3.trans (b4.mono b3.size)
  have b24 := b2.trans (b34.mono b2.size)
  have b14 := b1.trans (b24.mono b1.size)
  have h0 : W4.heap[b]? = some (.cells X 31 (0, 0)) := (b24.block b (by omega)).trans (by rw [hW1, ← hb]; exact alloc_new w _)
  have h1 : W4.heap[b + 1]? = some (.cells #[.string (strOfNums nm)] 9 (0, 0)) := (b34.block _ (by omega)).trans (by rw [hW2, ← s1]; exact alloc_new W1 _)
  have h2 : W4.heap[b + 1 + 1]? = some (.cells ln0 42 (0, 0)) := (b4.block _ (by omega)).trans (by rw [hW3, ← s2]; exact alloc_new W2 _)
  have h3 : W4.heap[b + 1 + 1 + 1]? = some (.cells ln0 42 (0, 0)) := by rw [hW4, ← s3]; exact alloc_new W3 _
  have hm96 := hd.max
  have HPL := hid (places_any W4 X ptr L.length hX hm96)
  have HD := hid hD
  have HDD := hid hd
  have HX := hid hX
  have HE := hid hE
  have HG := hid hG
  have HNM := hid hnm
  have HM := hid hm96
  have HB := hid hb
  have HXS := hid hXs
  have HH := hid (And.intro h0 (And.intro h1 (And.intro h2 h3)))
  have HB14 := hid b14
  have HS4 := hid s4
  clear hD hd hX hE hG hnm hm96 hXs h0 h1 h2 h3 b1 b2 b3 b4 b34 b24 b14 s4
  go_enter Tryz.func20, Tryz.ntmps20
  go_wp2_with (first | (rw [← hW1]; clear hW1) | (rw [hb]; clear hb) | (rw [← hW2]; clear hW2) | (rw [s1]; clear s1) | (rw [← hW3]; clear hW3) | (rw [s2]; clear s2) | (rw [← hW4]; clear hW4) | (rw [s3]; clear s3) | (refine wpList_load_row rfl 31 _ rfl b rfl 31 X (0, 0) _ HH.out.1 Tryz.underlying31 rfl (by rw [HXS.out]; exact sizeIno) ?_))
  refine HPL.out.mono ?_
  rintro e w5 ⟨rfl, hb5⟩
  obtain ⟨r, hr⟩ : ∃ r, w5.heap.size = r := ⟨_, rfl⟩
  obtain ⟨W6, hW6⟩ : ∃ W, W = w5.alloc (.cells #[n64 0] 3) := ⟨_, rfl⟩
  obtain ⟨W7, hW7⟩ : ∃ W, W = W6.setCell ⟨r, 0, none⟩ (n64 L.length) := ⟨_, rfl⟩
  have hB5 := HB14.out.trans (hb5.mono HB14.out.size)
  have hrb : b + 4 ≤ r := by have := hb5.size; have := HS4.out; omega
  have h6r : W6.heap[r]? = some (.cells #[n64 0] 3 (0, 0)) := by rw [hW6, ← hr]; exact alloc_new w5 _
  have z6 : W6.cell? ⟨r, 0, none⟩ = some (n64 0) := cell_of h6r rfl
  have zf : W6.frozen? ⟨r, 0, none⟩ = false := froz_of h6r 0
  have h7r : W7.heap[r]? = some (.cells #[n64 L.length] 3 (0, 0)) := by rw [hW7]; exact setc h6r 0 _
  have hk7 : ∀ g, g < w5.heap.size → W7.heap[g]? = w5.heap[g]? := fun g hg => by
    rw [hW7, Below.heap_setCell _ _ _ _ (fun e => by have : g = r := e; omega), hW6]
    exact Below.heap_alloc _ _ _ hg
  have hB7 : Below w.heap.size w W7 := by
    rw [hW7, hW6]
    exact (hB5.alloc hB5.size _).setCell (by show w.heap.size ≤ r; have := HB.out; omega) _
  have hk47 : ∀ g, g < W4.heap.size → W7.heap[g]? = W4.heap[g]? := fun g hg => (hk7 g (Nat.lt_of_lt_of_le hg hb5.size)).trans (hb5.block g hg)
  have hs4 := HS4.out
  have hbw := HB.out
  have hgl := HE.out.lt
  have hap : Apart4 0 r (b + 1) (b + 1 + 1 + 1) := ⟨by omega, by omega, by omega, by omega, by omega, by omega⟩
  have hJ : SrJ (w.heap[0]?) pe r (b + 1) (b + 1 + 1 + 1) L.length nm [] (SrZ r (b + 1) (b + 1 + 1 + 1)) W7 := ⟨rfl, HE.out.later hB7, hB7.block _ hgl, by rw [roomF_nil]; exact h7r, (hk47 _ (by omega)).trans HH.out.2.1, (hk47 _ (by omega)).trans HH.out.2.2.2, fun x hx => by cases hx⟩
  have hnS : ∀ g, w.heap.size ≤ g → ¬ S g ∧ ¬ T g := fun g hg => ⟨fun h => by have := HD.out.s g h; omega, fun h => by have := HD.out.t.lt h; omega⟩
  have HV : Calls Tryz.prog 26 #[ptrV pv, .agg X, n64 0, seeV 39 #[ptrV r, ptrV (b + 1), ptrV (b + 1 + 1 + 1)]] W7 _ := visit_any (HD.out.later hB7) HDD.out HX.out 0 (search_see hap HNM.out HM.out) (fun ls Z W h => h.2.en) (fun ls Z W h => h.en) (by decide) hJ (fun g hg => by
    rcases hg with rfl | rfl | rfl | rfl
    · exact HG.out
    · exact hnS _ (by omega)
    · exact hnS _ (by omega)
    · exact hnS _ (by omega))
  replace HV := hid HV
  have HB7 := hid hB7
  have HHX : Hid (W7.heap[b]? = some (.cells X 31 (0, 0))) := hid ((hk47 _ (by omega)).trans HH.out.1)
  have HHR : Hid (W7.heap[b + 1 + 1]? = some (.cells ln0 42 (0, 0))) := hid ((hk47 _ (by omega)).trans HH.out.2.2.1)
  have HRB := hid (And.intro hrb hgl)
  have HR7 : Hid (b + 1 + 1 < W7.heap.size) := hid ((Array.getElem?_eq_some_iff.1 HHR.out).1)
  clear hb5 hB5 hrb h6r h7r hk7 hB7 hk47 hs4 hbw hgl hap hJ hnS HPL HH HB14 HS4
  go_wp2_with (first | (rw [← hW6]; clear hW6) | (rw [hr]; clear hr) | (rw [← hW7]; clear hW7) | (refine wpList_load_row rfl 31 _ rfl b rfl 31 X (0, 0) _ HHX.out Tryz.underlying31 rfl (by rw [HXS.out]; exact sizeIno) ?_))
  refine HV.out.mono ?_
  rintro e w8 ⟨rfl, Z', hz, hm, hor⟩
  have hBof : (w8.heap[0]? = w.heap[0]?) → Below w.heap.size w w8 := fun hg0 => ⟨hm.os.trans HB7.out.os, hm.tape.trans HB7.out.tape, hm.output.trans HB7.out.output, Nat.le_trans HB7.out.size hm.size, fun g hg => by
    by_cases e0 : g = 0
    · rw [e0]; exact hg0
    · refine (hm.block g (Nat.lt_of_lt_of_le hg HB7.out.size) (fun hZ => ?_)).trans (HB7.out.block g hg)
      have := HB.out
      have := HRB.out.1
      rcases hZ with h | h | h | h <;> omega⟩
  have h8r : w8.heap[b + 1 + 1]? = some (.cells ln0 42 (0, 0)) := (hm.block _ HR7.out (fun hZ => by
    have := HB.out
    have := HRB.out
    rcases hZ with h | h | h | h <;> omega)).trans HHR.out
  have H8R := hid h8r
  have HBO := hid hBof
  clear hz hm hBof h8r HV HHR HHX
  rcases hor with hj | ⟨q, hq1, hq2, hj⟩
  · rw [List.drop_zero] at hj
    obtain ⟨rfl, hj⟩ := hj
    have hB8 := HBO.out hj.g
    have HB8 := hid hB8
    have HF8 := hid hj.f
    have HRR := hid hj.r
    have NO := hid hj.no
    have HFR := hid (isFree_yes w8 (n64 0) ⟨#[]⟩)
    clear hj hB8
    go_wp2_with (refine wpList_load_row rfl 42 _ rfl (b + 1 + 1 + 1) rfl 42 _ (0, 0) _ HF8.out Tryz.underlying42 rfl sizeLn ?_)
    refine HFR.out.mono ?_
    rintro e w9 ⟨rfl, hb9⟩
    obtain ⟨R, hR⟩ : ∃ R, R = roomF L.length L := ⟨_, rfl⟩
    obtain ⟨pa, hpa⟩ : ∃ pa, w9.drew.heap.size = pa := ⟨_, rfl⟩
    have hpa' : w9.heap.size = pa := hpa
    have hB9 : Below w.heap.size w w9 := HB8.out.trans (hb9.mono HB8.out.size)
    have y0 : w9.drew.cell? ⟨r, 0, none⟩ = some (n64 R) := by rw [hR]; exact cell_of ((hb9.block r (Array.getElem?_eq_some_iff.1 HRR.out).1).trans HRR.out) rfl
    have r9 : w9.heap[b + 1 + 1]? = some (.cells ln0 42 (0, 0)) := (hb9.block _ (Array.getElem?_eq_some_iff.1 H8R.out).1).trans H8R.out
    have lr9 := (Array.getElem?_eq_some_iff.1 r9).1
    have lrr : r < w9.heap.size := Nat.lt_of_lt_of_le (Array.getElem?_eq_some_iff.1 HRR.out).1 hb9.size
    have hrne : r ≠ b + 1 + 1 := by have := HRB.out.1; omega
    have hbw := HB.out
    have Y0 := hid y0
    have HPA := hid hpa
    have HPB : Hid ((w9.drew.setRow (b + 1 + 1) ln0).heap.size = pa) := hid (by simp [World.setRow]; exact hpa')
    have YA : Hid ((w9.drew.alloc (.cells #[n64 2, n64 R] 69)).cell? ⟨r, 0, none⟩ = some (n64 R)) := hid ((World.cell?_alloc_lt _ _ ⟨r, 0, none⟩ lrr).trans y0)
    have RA : Hid ((w9.drew.alloc (.cells #[n64 2, n64 R] 69)).heap[b + 1 + 1]? = some (.cells ln0 42 (0, 0))) := hid ((Below.heap_alloc _ _ _ lr9).trans r9)
    have YB : Hid (((w9.drew.alloc (.cells #[n64 2, n64 R] 69)).setRow (b + 1 + 1) ln0).cell? ⟨r, 0, none⟩ = some (n64 R)) := hid ((World.cell?_of_block (setRow_other _ _ _ _ hrne)).trans YA.out)
    have RB : Hid (w9.drew.heap[b + 1 + 1]? = some (.cells ln0 42 (0, 0))) := hid r9
    have YC : Hid ((w9.drew.setRow (b + 1 + 1) ln0).cell? ⟨r, 0, none⟩ = some (n64 R)) := hid ((World.cell?_of_block (setRow_other _ _ _ _ hrne)).trans y0)
    have YD : Hid (((w9.drew.setRow (b + 1 + 1) ln0).alloc (.cells #[n64 2, n64 R] 69)).cell? ⟨r, 0, none⟩ = some (n64 R)) := hid ((World.cell?_alloc_lt _ _ ⟨r, 0, none⟩ (by show r < _; rw [HPB.out]; omega)).trans YC.out)
    have hBd : Below w.heap.size w w9.drew := hB9.drew
    have EA : Hid (((w9.drew.alloc (.cells #[n64 2, n64 R] 69)).setRow (b + 1 + 1) ln0).heap[b + 1 + 1]? = some (.cells ln0 42 (0, 0)) ∧ Below w.heap.size w ((w9.drew.alloc (.cells #[n64 2, n64 R] 69)).setRow (b + 1 + 1) ln0) ∧ w.heap.size ≤ pa ∧ ((w9.drew.alloc (.cells #[n64 2, n64 R] 69)).setRow (b + 1 + 1) ln0).heap[pa]? = some (.cells #[n64 2, n64 (roomF L.length L)] 69 (0, 0))) := hid ⟨setRow_heap _ _ _ _ _ _ RA.out, below_setRow (hBd.alloc hBd.size _) (by omega) _, by rw [← hpa']; exact hB9.size, by rw [setRow_other _ _ _ _ (by omega), ← hpa, ← hR]; exact alloc_new w9.drew _⟩
    have EB : Hid (((w9.drew.setRow (b + 1 + 1) ln0).alloc (.cells #[n64 2, n64 R] 69)).heap[b + 1 + 1]? = some (.cells ln0 42 (0, 0)) ∧ Below w.heap.size w ((w9.drew.setRow (b + 1 + 1) ln0).alloc (.cells #[n64 2, n64 R] 69)) ∧ w.heap.size ≤ pa ∧ ((w9.drew.setRow (b + 1 + 1) ln0).alloc (.cells #[n64 2, n64 R] 69)).heap[pa]? = some (.cells #[n64 2, n64 (roomF L.length L)] 69 (0, 0))) := hid ⟨(Below.heap_alloc _ _ _ (by rw [HPB.out]; omega)).trans (setRow_heap _ _ _ _ _ _ RB.out), (below_setRow hBd (by omega) _).alloc (by rw [HPB.out, ← hpa']; exact hB9.size) _, by rw [← hpa']; exact hB9.size, by rw [← HPB.out, ← hR]; exact alloc_new _ _⟩
    clear hb9 hB9 y0 r9 lr9 lrr hrne hbw hpa hpa' hBd hR HFR
    go_upto_region 7 with fail
    refine wp_region_held_drew (S := fun w' => w'.cell? ⟨r, 0, none⟩ = some (n64 R)) (by kernel_rfl) Y0.out (fun hS => ?_)
    refine nany_take 0 23 (.agg ln0) rfl rfl (by kernel_rfl) (by kernel_rfl) (by kernel_rfl) (fun _ _ _ h => h) (Or.inl ⟨by rfl, ?_⟩) hS ?_
    · rintro w' hS'
      go_simp
    simp only [List.setIfInBounds_toArray, List.set_cons_zero, List.set_cons_succ]
    refine nany_take 1 24 (n64 R) rfl rfl (by kernel_rfl) (by kernel_rfl) (by kernel_rfl) (fun _ _ _ h => h) (Or.inl ⟨by rfl, ?_⟩) hS ?_
    · rintro w' hS'
      have x0 : w'.cell? ⟨r, 0, none⟩ = some (n64 R) := hS'; go_simp
    simp only [List.setIfInBounds_toArray, List.set_cons_zero, List.set_cons_succ]
    refine nany_take 2 25 (.agg #[n64 2, n64 R]) rfl rfl (by kernel_rfl) (by kernel_rfl) (by kernel_rfl) (fun _ _ _ h => h) (Or.inl ⟨by rfl, ?_⟩) hS ?_
    · rintro w' hS'
      go_simp
    simp only [List.setIfInBounds_toArray, List.set_cons_zero, List.set_cons_succ]
    refine nany_two 3 5 (by kernel_rfl) ?_ ?_
    · refine nop_value' 26 (v := ptrV pa) (w' := w9.drew.alloc (.cells #[n64 2, n64 R] 69)) rfl (by rfl) rfl (by rw [← HPA.out]; go_simp) ?_
      refine ⟨YA.out, ?_⟩
      simp only [List.setIfInBounds_toArray, List.set_cons_zero, List.set_cons_succ]
      refine nany_take 4 27 (.iface 63 (ptrV pa)) rfl rfl (by kernel_rfl) (by kernel_rfl) (by kernel_rfl) (fun _ _ _ h => h) (Or.inl ⟨by rfl, ?_⟩) YA.out ?_
      · rintro w' hS'
        go_simp
      simp only [List.setIfInBounds_toArray, List.set_cons_zero, List.set_cons_succ]
      refine nany_one 5 (by kernel_rfl) ?_
      refine nop_skip (w' := (w9.drew.alloc (.cells #[n64 2, n64 R] 69)).setRow (b + 1 + 1) ln0) rfl (by rfl) rfl (ex_store 42 (.tmp 6) (.tmp 23) rfl (b + 1 + 1) ln0 rfl rfl 42 ln0 RA.out sizeLn rfl (oneLn _ _ _)) ?_
      refine ⟨YB.out, ?_⟩
      refine nany_take 6 7 (.iface 63 (ptrV pa)) rfl rfl (by kernel_rfl) (by kernel_rfl) (by kernel_rfl) (fun _ _ _ h => h) (Or.inl ⟨by rfl, ?_⟩) YB.out ?_
      · rintro w' hS'
        go_simp
      simp only [List.setIfInBounds_toArray, List.set_cons_zero, List.set_cons_succ]
      refine wpAnyH_done (by kernel_rfl) ?_ _
      clear hS
      go_wp2
      refine bodyPost_ret (results_ct rfl _ _ (b + 1 + 1) ln0 _ _ rfl EA.out.1 Tryz.underlying42 sizeLn) rfl ⟨EA.out.2.1, .inr ⟨NO.out, pa, rfl, EA.out.2.2.1, EA.out.2.2.2⟩⟩
    · refine nop_skip (w' := w9.drew.setRow (b + 1 + 1) ln0) rfl (by rfl) rfl (ex_store 42 (.tmp 6) (.tmp 23) rfl (b + 1 + 1) ln0 rfl rfl 42 ln0 RB.out sizeLn rfl (oneLn _ _ _)) ?_
      refine ⟨YC.out, ?_⟩
      refine nany_one 3 (by kernel_rfl) ?_
      refine nop_value' 26 (v := ptrV pa) (w' := (w9.drew.setRow (b + 1 + 1) ln0).alloc (.cells #[n64 2, n64 R] 69)) rfl (by rfl) rfl (by rw [← HPB.out]; go_simp) ?_
      refine ⟨YD.out, ?_⟩
      simp only [List.setIfInBounds_toArray, List.set_cons_zero, List.set_cons_succ]
      refine nany_take 4 27 (.iface 63 (ptrV pa)) rfl rfl (by kernel_rfl) (by kernel_rfl) (by kernel_rfl) (fun _ _ _ h => h) (Or.inl ⟨by rfl, ?_⟩) YD.out ?_
      · rintro w' hS'
        go_simp
      simp only [List.setIfInBounds_toArray, List.set_cons_zero, List.set_cons_succ]
      refine nany_take 6 7 (.iface 63 (ptrV pa)) rfl rfl (by kernel_rfl) (by kernel_rfl) (by kernel_rfl) (fun _ _ _ h => h) (Or.inl ⟨by rfl, ?_⟩) YD.out ?_
      · rintro w' hS'
        go_simp
      simp only [List.setIfInBounds_toArray, List.set_cons_zero, List.set_cons_succ]
      refine wpAnyH_done (by kernel_rfl) ?_ _
      clear hS
      go_wp2
      refine bodyPost_ret (results_ct rfl _ _ (b + 1 + 1) ln0 _ _ rfl EB.out.1 Tryz.underlying42 sizeLn) rfl ⟨EB.out.2.1, .inr ⟨NO.out, pa, rfl, EB.out.2.2.1, EB.out.2.2.2⟩⟩
  · obtain ⟨rfl, hen, hg, _, _, ls0, x, hls, hhas, hno, hf⟩ := hj
    have hB8 := HBO.out hg
    have HB8 := hid hB8
    have HF8 := hid hf
    have hq0 : seen L 0 q = L.take q := by simp [seen]
    rw [hq0] at hls
    have hlen : ls0.length + 1 = q := by have := congrArg List.length hls; simp at this; omega
    have hx : x = L.getD ls0.length noLn := by
      have h1 : (L.take q)[ls0.length]? = some x := by rw [hls]; simp
      rw [List.getElem?_take, if_pos (by omega)] at h1
      simp [List.getD, h1]
    have hpre : ∀ j, j < ls0.length → ¬ Has nm (L.getD j noLn) := fun j hj => by
      have h1 : (L.take q)[j]? = ls0[j]? := by rw [hls, List.getElem?_append_left hj]
      rw [List.getElem?_take, if_pos (by omega), List.getElem?_eq_getElem hj] at h1
      have h2 : L.getD j noLn = ls0[j] := by simp [List.getD, h1]
      rw [h2]
      exact hno _ (List.getElem_mem _)
    have HAN : Hid (ls0.length < L.length ∧ Has nm (L.getD ls0.length noLn) ∧ ∀ j, j < ls0.length → ¬ Has nm (L.getD j noLn)) := hid ⟨by omega, by rw [← hx]; exact hhas, hpre⟩
    have hi0 : x.i ≠ 0 := hhas.1
    have HFR := hid (isFree_no w8 (n64 ls0.length) x.i (strOfNums x.nm) hi0)
    have HXX := hid hx
    clear hen hg hls hhas hno hf hB8 hq0 hlen hx hpre hi0 hq1 hq2
    go_wp2_with (refine wpList_load_row rfl 42 _ rfl (b + 1 + 1 + 1) rfl 42 _ (0, 0) _ HF8.out Tryz.underlying42 rfl sizeLn ?_)
    refine HFR.out.mono ?_
    rintro e w9 ⟨rfl, hb9⟩
    have hB9 : Below w.heap.size w w9 := HB8.out.trans (hb9.mono HB8.out.size)
    have f9 := (hb9.block _ (Array.getElem?_eq_some_iff.1 HF8.out).1).trans HF8.out
    have r9 := (hb9.block _ (Array.getElem?_eq_some_iff.1 H8R.out).1).trans H8R.out
    obtain ⟨WZ, hWZ⟩ : ∃ W, W = w9.setRow (b + 1 + 1) #[n64 ls0.length, n64 x.i, .string (strOfNums x.nm)] := ⟨_, rfl⟩
    have hzr : WZ.heap[b + 1 + 1]? = some (.cells #[n64 ls0.length, n64 x.i, .string (strOfNums x.nm)] 42 (0, 0)) := by rw [hWZ]; exact setRow_heap _ _ _ _ _ _ r9
    have hBZ : Below w.heap.size w WZ := by rw [hWZ]; exact below_setRow hB9 (by have := HB.out; omega) _
    have HF9 := hid f9
    have HR9 := hid r9
    have HZR := hid hzr
    have HBZ := hid hBZ
    clear hb9 hB9 f9 r9 hzr hBZ HFR
    go_wp2_with (first | (refine wpList_load_row rfl 42 _ rfl (b + 1 + 1 + 1) rfl 42 _ (0, 0) _ HF9.out Tryz.underlying42 rfl sizeLn ?_) | (refine wpList_store_row rfl 42 _ _ rfl (b + 1 + 1) #[n64 ls0.length, n64 x.i, .string (strOfNums x.nm)] rfl rfl 42 _ HR9.out sizeLn rfl (oneLn _ _ _) ?_; rw [← hWZ]; clear hWZ))
    refine bodyPost_ret (results_ct rfl _ _ (b + 1 + 1) _ _ _ rfl HZR.out Tryz.underlying42 sizeLn) rfl ⟨HBZ.out, .inl ⟨ls0.length, HAN.out.1, HAN.out.2.1, HAN.out.2.2, by rw [← HXX.out]; rfl⟩⟩
end Go.Proofs.YtaplmlldmhdhoaaGreatDoor
