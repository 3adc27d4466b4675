/- lay: bytes into a block of a file. -/
import Derived.Test.YtldlnidbeiggoaaGreatDoorIbF
import Derived.Laws.CopyOwn
namespace Go.Proofs.YtldlnidbeiggoaaGreatDoor
open Go.RowKit Go.Maps
set_option linter.unusedVariables false

/-- A file at work: what its view tells, what it is. -/
structure Fw (w : World) (pf pd : Nat) (S : Nat → Prop) (N : Nat) (i : Int) (base : Value) (T : Nat → Prop) (bc : Nat → List Int) (n : Nat) (P : Int → Option (List Int)) (c : Nat → List Int) (A0 : Array Value) (size : Int) (ptr : Nat → Nat) : Prop where
  D : Dw w pd S N i base T bc n P c
  A : ∃ A, w.heap[pf]? = some (.cells A 115 (0, 0)) ∧ FileIs A pd size ptr ∧ ∀ j, 0 < j → j < 15 → j ≠ 7 → A[j]? = A0[j]?
  nS : ¬ S pf
  nT : ¬ T pf
/-- Blocks of S and pf alone have turned; S' is S and new ones. -/
def KpF (S : Nat → Prop) (pf : Nat) (w : World) (S' : Nat → Prop) (w' : World) : Prop := (∀ b, S' b → S b ∨ w.heap.size ≤ b) ∧ Mods (fun g => S g ∨ g = pf) w w'
theorem KpF.refl (S : Nat → Prop) (pf : Nat) (w : World) : KpF S pf w S w := ⟨fun _ h => .inl h, Mods.refl _ _⟩
theorem KpF.trans {S S' S'' : Nat → Prop} {pf : Nat} {w w' w'' : World} (h : KpF S pf w S' w') (h' : KpF S' pf w' S'' w'') : KpF S pf w S'' w'' :=
  ⟨fun b hb => by
    rcases h'.1 b hb with h1 | h1
    · exact h.1 b h1
    · exact .inr (Nat.le_trans h.2.size h1), h.2.trans h'.2 (fun b hb => by
    rcases hb with h1 | h1
    · rcases h.1 b h1 with h2 | h2
      · exact .inl (.inl h2)
      · exact .inr h2
    · exact .inl (.inr h1))⟩
theorem KpF.of_kp {S S' : Nat → Prop} {pf : Nat} {w w' : World} (h : Kp S w S' w') : KpF S pf w S' w' := ⟨h.1, h.2.weak (fun b hb => .inl (.inl hb))⟩
theorem KpF.below {S : Nat → Prop} {pf : Nat} {w w' : World} (h : Below w.heap.size w w') : KpF S pf w S w' := .of_kp (.below h)
variable {w w' : World} {pf pd n N : Nat} {S S' T : Nat → Prop} {i : Int} {base : Value} {P P' : Int → Option (List Int)} {bc c c' : Nat → List Int} {A0 : Array Value} {size : Int} {ptr : Nat → Nat}
theorem Fw.later (h : Fw w pf pd S N i base T bc n P c A0 size ptr) (hb : Below w.heap.size w w') : Fw w' pf pd S N i base T bc n P c A0 size ptr := by
  obtain ⟨hD, ⟨A, h1, h2, h3⟩, h4, h5⟩ := h
  exact ⟨hD.later hb, ⟨A, (hb.block pf (Array.getElem?_eq_some_iff.1 h1).1).trans h1, h2, h3⟩, h4, h5⟩
theorem Fw.lt (h : Fw w pf pd S N i base T bc n P c A0 size ptr) : pf < w.heap.size := let ⟨_, h1, _⟩ := h.A; (Array.getElem?_eq_some_iff.1 h1).1
theorem Fw.kp {n' : Nat} (h : Fw w pf pd S N i base T bc n P c A0 size ptr) (hk : Kp S w S' w') (hD : Dw w' pd S' N i base T bc n' P' c') : Fw w' pf pd S' N i base T bc n' P' c' A0 size ptr := by
  obtain ⟨_, ⟨A, h1, h2, h3⟩, h4, h5⟩ := h
  exact ⟨hD, ⟨A, (hk.block (Array.getElem?_eq_some_iff.1 h1).1 h4).trans h1, h2, h3⟩, hk.off (Array.getElem?_eq_some_iff.1 h1).1 h4, h5⟩
theorem Fw.view (h : Fw w pf pd S N i base T bc n P c A0 size ptr) : w.cell? ⟨pf, 0, none⟩ = some (ptrV pd) := let ⟨_, h1, h2, _⟩ := h.A; cell_of h1 h2.view
/-- Bytes laid over others. -/
def layL (l : List Int) (from_ : Nat) (p : List Int) : List Int := l.take from_ ++ (p ++ l.drop (from_ + p.length))
theorem layL_len (l : List Int) (from_ : Nat) (p : List Int) (h : from_ + p.length ≤ l.length) : (layL l from_ p).length = l.length := by simp [layL]; omega
theorem layL_isB {l p : List Int} {from_ : Nat} (hl : ∀ y ∈ l, IsB y) (hp : ∀ y ∈ p, IsB y) : ∀ y ∈ layL l from_ p, IsB y := fun y hy => by
  simp only [layL, List.mem_append] at hy
  rcases hy with h | h | h
  · exact hl y (List.mem_of_mem_take h)
  · exact hp y h
  · exact hl y (List.mem_of_mem_drop h)
theorem layL_all (l p : List Int) (h : p.length = l.length) : layL l 0 p = p := by
  unfold layL
  rw [List.take_zero, List.nil_append, List.drop_of_length_le (by omega), List.append_nil]
theorem info5s : (Tryz.prog.info? 5).map (·.size) = some 1 := by kernel_rfl
theorem layL_splice (l p : List Int) (from_ : Nat) (rest : List Value) (h : from_ + p.length ≤ l.length) : splice (u8s l ++ rest) from_ (u8s p) = u8s (layL l from_ p) ++ rest := by
  unfold splice layL u8s
  rw [List.take_append_of_le_length (by simp; omega), List.drop_append_of_le_length (by simp; omega)]
  simp
set_option maxRecDepth 100000 in
set_option maxHeartbeats 4000000 in
theorem lay_part (h : Fw w pf pd S N i base T bc n P c A0 size ptr) (hn : n < 900000) (b from_ : Nat) (hb : b < N) (a : Option Addr) (m cp : Nat) (p : List Int) (hp : p.length = m) (hy : By w (fun _ => True) a p) (hm : m < 512) (hm0 : 0 < m) (hf : from_ + m ≤ 512) :
    Calls Tryz.prog 101 #[ptrV pf, n64 b, n64 from_, .slice a m cp] w fun e w' => e = .returned .nilIface ∧ ∃ S', Fw w' pf pd S' N i base T bc (n + 1) (upd P (b : Int) (some (layL (c b) from_ p))) (updN c b (layL (c b) from_ p)) A0 size ptr ∧ Kp S w S' w' := by
  have mkB : ∀ W : World, (Instr.makeSlice 40 (.int .i64 512) (.int .i64 512)).run Tryz.prog W = .ok (.slice (some ⟨W.heap.size, 0, none⟩) 512 512) (W.alloc (.cells (madeCells #[.int .u8 0] 512) 5)) := run_make_row' (P := Tryz.prog) 40 5 (.int .u8 0) 1 Tryz.underlying40 info5 rfl .i64 .i64 512 (by omega) (by omega)
  obtain ⟨W1, hW1⟩ : ∃ W, W = w.alloc (.cells (madeCells #[.int .u8 0] 512) 5) := ⟨_, rfl⟩
  have hb1 : Below w.heap.size w W1 := by rw [hW1]; exact (Below.refl _ _).alloc (Nat.le_refl _) _
  have hF1 := h.later hb1
  have HF1 := hid hF1
  have HF0 := hid h
  have f0 := hF1.view
  have HG := hid (hF1.D.Get b hb)
  have HB1 := hid hb1
  have HY1 := hid (hy.later hb1)
  have HH := hid (And.intro hn hb)
  have HP := hid hp
  have hm' : (m : Int) < 512 := by omega
  have HC : Hid ((c b).length = 512 ∧ ∀ y ∈ c b, IsB y) := hid ⟨h.D.len b hb, h.D.isB b hb⟩
  clear h hb1 hF1 hy hn hb hp
  go_enter Tryz.func101, Tryz.ntmps101
  go_wp2_with (first | (rw [← hW1]; clear hW1))
  refine HG.out.mono ?_
  rintro e w2 ⟨g2, c2, rfl, ho2, hb2⟩
  obtain ⟨cur, hh2, hc1, hc2, hcs, hcur, _⟩ := owns_block ho2
  have hg2 := (owns_lt ho2 (g := g2) rfl).2
  have hF2 := HF1.out.later hb2
  have HF2 := hid hF2
  have f2 := hF2.view
  have HB2 := hid hb2
  have HY2 := hid (HY1.out.later hb2)
  obtain ⟨rest, hrest⟩ : ∃ rest, cur.toList = u8s (c b) ++ rest := by
    refine ⟨cur.toList.drop 512, ?_⟩
    conv => lhs; rw [← List.take_append_drop 512 cur.toList]
    congr 1
    apply List.ext_getElem?
    intro j
    rw [List.getElem?_take]
    by_cases hj : j < 512
    · rw [if_pos hj, Array.getElem?_toList, hcur j hj]
    · rw [if_neg hj, List.getElem?_eq_none (by simp [HC.out.1]; omega)]
  have hcl : cur = (u8s (c b) ++ rest).toArray := by rw [← hrest]
  rw [hcl] at hh2
  have HH2 := hid hh2
  have HRL : Hid (512 + rest.length = c2) := hid (by rw [hcl] at hcs; simp [HC.out.1] at hcs; omega)
  have hfc : ¬ c2 = from_ := by omega
  have hfc2 : from_ ≤ c2 := by omega
  have hfc3 : (from_ : Int) ≤ 512 := by omega
  have hfc4 : from_ ≤ 512 := by omega
  have HG2 := hid hg2
  have HFM := hid (And.intro hm0 hf)
  clear ho2 hb2 hF2 hh2 hcur hcs hc1 hc2 hcl hrest hg2 f0 HG HF1 HY1 mkB
  have HSRC : Hid (∀ j v, (u8s p)[j]? = some v → ∀ ad, a = some ad → w2.cell? (ad.add j) = some v) := hid (fun j v hj ad had => by
    obtain ⟨gb, go, ea, _, hc⟩ := HY2.out.at_ (by rw [HP.out]; exact HFM.out.1)
    rw [ea] at had
    simp only [Option.some.injEq] at had
    subst had
    have hj2 : j < p.length := by have := (List.getElem?_eq_some_iff.1 hj).1; simpa using this
    rw [add_addr, hc j hj2, ← hj, u8s_get hj2])
  obtain ⟨ad, had⟩ : ∃ ad, a = some ad := by
    obtain ⟨gb, go, ea, _⟩ := HY2.out.addr (by rw [HP.out]; exact HFM.out.1)
    exact ⟨_, ea⟩
  have HAD := hid had
  obtain ⟨X, hX⟩ : ∃ X, X = u8s (c b) ++ rest := ⟨_, rfl⟩
  obtain ⟨Y, hY⟩ : ∃ Y, Y = u8s p := ⟨_, rfl⟩
  rw [← hX] at HH2
  rw [← hY] at HSRC
  have HYL : Hid (Y.length = m ∧ ∀ v ∈ Y, v.oneCell' = true) := hid ⟨by rw [hY]; simp [HP.out], by rw [hY]; exact u8s_one p⟩
  have HXL : Hid (X.length = c2) := hid (by rw [hX]; simp [HC.out.1]; exact HRL.out)
  have HXY : Hid (splice X from_ Y = u8s (layL (c b) from_ p) ++ rest) := hid (by rw [hX, hY]; exact layL_splice _ _ _ _ (by rw [HP.out, HC.out.1]; exact HFM.out.2))
  have HBW : Hid (Below w.heap.size w w2) := hid (HB1.out.trans (HB2.out.mono HB1.out.size))
  have HGW : Hid (w.heap.size ≤ g2) := hid (Nat.le_trans HB1.out.size HG2.out)
  clear had hX hY
  go_wp2_with (show wpList _ _ _ ({ dst := _, op := .call { callee := .builtin .copy, args := #[.tmp 31, .tmp 32], argTypes := #[40, 40] }, type := _, pos := _, after := _, guard := none } :: _) _ _; refine wpList_copy_splice rfl (.tmp 31) (.tmp 32) 40 40 rfl 5 Tryz.underlying40 info5s (some ⟨g2, from_, none⟩) a (512 - from_) (c2 - from_) m cp rfl rfl g2 from_ X 5 HH2.out Y (by rw [HYL.out.1]; exact (Nat.min_eq_left (by omega)).symm) (fun _ => ⟨rfl, ad, HAD.out, fun j v hj => HSRC.out j v hj ad HAD.out⟩) (by rw [HYL.out.1, HXL.out]; have := HRL.out; omega) HYL.out.2 w.heap.size w HBW.out HGW.out ?_; intro w3 hh3 hb3; have HB3 := hid hb3; have f3 := (HF0.out.later hb3).view; clear hb3)
  have HH3 := hid hh3.out
  rw [HXY.out] at HH3
  have hy3 : By w3 (fun _ => True) (some ⟨g2, 0, none⟩) (layL (c b) from_ p) := by
    have hl := layL_len (c b) from_ p (by rw [HP.out, HC.out.1]; exact HFM.out.2)
    refine ⟨layL_isB HC.out.2 HY2.out.isB, fun _ => ⟨g2, 0, _, _, rfl, trivial, HH3.out, fun j hj => ?_⟩⟩
    rw [Nat.zero_add, List.getElem?_toArray, List.getElem?_append_left (by simpa using hj), u8s_get hj]
  have HPU := hid ((HF0.out.later HB3.out).D.Put HH.out.1 b HH.out.2 (fun _ => True) (layL (c b) from_ p) (by rw [layL_len _ _ _ (by rw [HP.out, HC.out.1]; exact HFM.out.2)]; exact HC.out.1) (some ⟨g2, 0, none⟩) c2 hy3)
  clear hh3 hy3 HXY HSRC HAD HYL HXL HBW HGW
  go_wp2_with fail
  refine HPU.out.mono ?_
  rintro e w4 ⟨rfl, S', hd4, hk4⟩
  have HF4 := hid ((HF0.out.later HB3.out).kp hk4 hd4)
  have HK4 := hid ((Kp.below (S := S) HB3.out).trans hk4)
  clear hd4 hk4 HPU
  go_wp2
  go_ret
  exact ⟨rfl, S', HF4.out, HK4.out⟩
theorem made_arr (v : Value) (m : Nat) : madeCells #[v] m = (List.replicate m v).toArray := by
  apply Array.ext_getElem?
  intro j
  rw [← Array.getElem?_toList, toList_madeCells_one, List.getElem?_toArray]
set_option maxRecDepth 100000 in
set_option maxHeartbeats 4000000 in
theorem lay_full (h : Fw w pf pd S N i base T bc n P c A0 size ptr) (hn : n < 900000) (b : Nat) (hb : b < N) (a : Option Addr) (cp : Nat) (p : List Int) (hp : p.length = 512) (hy : By w (fun _ => True) a p) :
    Calls Tryz.prog 101 #[ptrV pf, n64 b, n64 (0 : Nat), .slice a 512 cp] w fun e w' => e = .returned .nilIface ∧ ∃ S', Fw w' pf pd S' N i base T bc (n + 1) (upd P (b : Int) (some p)) (updN c b p) A0 size ptr ∧ Kp S w S' w' := by
  have mkB : ∀ W : World, (Instr.makeSlice 40 (.int .i64 512) (.int .i64 512)).run Tryz.prog W = .ok (.slice (some ⟨W.heap.size, 0, none⟩) 512 512) (W.alloc (.cells (madeCells #[.int .u8 0] 512) 5)) := run_make_row' (P := Tryz.prog) 40 5 (.int .u8 0) 1 Tryz.underlying40 info5 rfl .i64 .i64 512 (by omega) (by omega)
  obtain ⟨W1, hW1⟩ : ∃ W, W = w.alloc (.cells (madeCells #[.int .u8 0] 512) 5) := ⟨_, rfl⟩
  have hb1 : Below w.heap.size w W1 := by rw [hW1]; exact (Below.refl _ _).alloc (Nat.le_refl _) _
  obtain ⟨X, hX⟩ : ∃ X, X = List.replicate 512 (Value.int .u8 0) := ⟨_, rfl⟩
  have hh1 : W1.heap[w.heap.size]? = some (.cells X.toArray 5 (0, 0)) := by rw [hW1, hX, ← made_arr]; exact alloc_new w _
  have HXL : Hid (X.length = 512) := hid (by rw [hX]; simp)
  obtain ⟨Y, hY⟩ : ∃ Y, Y = u8s p := ⟨_, rfl⟩
  have HYL : Hid (Y.length = 512 ∧ ∀ v ∈ Y, v.oneCell' = true) := hid ⟨by rw [hY]; simp [hp], by rw [hY]; exact u8s_one p⟩
  have HXY : Hid (splice X 0 Y = u8s p) := hid (by
    unfold splice
    rw [List.take_zero, List.nil_append, List.drop_of_length_le (by rw [HXL.out, HYL.out.1]; omega), List.append_nil, hY])
  have hy1 := hy.later hb1
  obtain ⟨gb, go, ea, _, hc⟩ := hy1.at_ (by rw [hp]; decide)
  have HSRC : Hid (∀ j v, Y[j]? = some v → W1.cell? ((⟨gb, go, none⟩ : Addr).add j) = some v) := hid (fun j v hj => by
    rw [hY] at hj
    have hj2 : j < p.length := by have := (List.getElem?_eq_some_iff.1 hj).1; simpa using this
    rw [add_addr, hc j hj2, ← hj, u8s_get hj2])
  have HEA := hid ea
  have HF0 := hid h
  have HI := hid hy.isB
  have HP := hid hp
  have HH := hid (And.intro hn hb)
  have HB1 := hid hb1
  have HH1 := hid hh1
  clear h hb1 hy hy1 hn hb hp hX hY hc hh1 ea
  go_enter Tryz.func101, Tryz.ntmps101
  go_wp2_with (first | (rw [← hW1]; clear hW1) | (show wpList _ _ _ ({ dst := _, op := .call { callee := .builtin .copy, args := #[.tmp 31, .tmp 32], argTypes := #[40, 40] }, type := _, pos := _, after := _, guard := none } :: _) _ _; refine wpList_copy_splice rfl (.tmp 31) (.tmp 32) 40 40 rfl 5 Tryz.underlying40 info5s (some ⟨w.heap.size, 0, none⟩) a 512 512 512 cp rfl rfl w.heap.size 0 X 5 HH1.out Y (by rw [HYL.out.1]; rfl) (fun _ => ⟨rfl, _, HEA.out, HSRC.out⟩) (by rw [HYL.out.1, HXL.out]; omega) HYL.out.2 w.heap.size w HB1.out (Nat.le_refl _) ?_; intro w3 hh3 hb3; have HB3 := hid hb3; have f3 := (HF0.out.later hb3).view; clear hb3))
  have HH3 := hid hh3.out
  rw [HXY.out] at HH3
  have hy3 : By w3 (fun _ => True) (some ⟨w.heap.size, 0, none⟩) p := by
    refine ⟨HI.out, fun _ => ⟨w.heap.size, 0, _, _, rfl, trivial, HH3.out, fun j hj => ?_⟩⟩
    rw [Nat.zero_add, List.getElem?_toArray, u8s_get hj]
  have HPU := hid ((HF0.out.later HB3.out).D.Put HH.out.1 b HH.out.2 (fun _ => True) p HP.out (some ⟨w.heap.size, 0, none⟩) 512 hy3)
  clear hh3 hy3 HXY HSRC HEA HYL HXL
  go_wp2_with fail
  refine HPU.out.mono ?_
  rintro e w4 ⟨rfl, S', hd4, hk4⟩
  have HF4 := hid ((HF0.out.later HB3.out).kp hk4 hd4)
  have HK4 := hid ((Kp.below (S := S) HB3.out).trans hk4)
  clear hd4 hk4 HPU
  go_wp2
  go_ret
  exact ⟨rfl, S', HF4.out, HK4.out⟩
theorem flay_any (h : Fw w pf pd S N i base T bc n P c A0 size ptr) (hn : n < 900000) (b from_ : Nat) (hb : b < N) (a : Option Addr) (m cp : Nat) (p : List Int) (hp : p.length = m) (hy : By w (fun _ => True) a p) (hm0 : 0 < m) (hf : from_ + m ≤ 512) :
    Calls Tryz.prog 101 #[ptrV pf, n64 b, n64 from_, .slice a m cp] w fun e w' => e = .returned .nilIface ∧ ∃ S', Fw w' pf pd S' N i base T bc (n + 1) (upd P (b : Int) (some (layL (c b) from_ p))) (updN c b (layL (c b) from_ p)) A0 size ptr ∧ Kp S w S' w' := by
  by_cases hm : m < 512
  · exact lay_part h hn b from_ hb a m cp p hp hy hm hm0 hf
  · obtain rfl : m = 512 := by omega
    obtain rfl : from_ = 0 := by omega
    rw [layL_all (c b) p (by rw [hp, h.D.len b hb])]
    exact lay_full h hn b hb a cp p hp hy
end Go.Proofs.YtldlnidbeiggoaaGreatDoor
