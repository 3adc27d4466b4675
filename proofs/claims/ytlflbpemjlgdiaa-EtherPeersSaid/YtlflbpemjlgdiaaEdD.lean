/- Peers: Learn. -/
import Derived.Test.YtlflbpemjlgdiaaEdC
namespace Go.Proofs.Ytlflbpemjlgdiaa
open Go.RowKit Go.Maps
set_option linter.unusedVariables false

theorem learn_zero (L : List Pe) (m : Mac) : learnL L 0 m = L := by unfold learnL; rw [if_pos rfl]
set_option maxRecDepth 100000 in
set_option maxHeartbeats 1000000 in
theorem Learn_zero (w : World) (p : Nat) (m : Mac) : Calls Try.prog 15 #[.pointer (some ⟨p, 0, none⟩), .int .u32 0, .agg (macC m)] w fun e w' => e = .returned (.tuple #[]) ∧ Below w.heap.size w w' := by
  go_enter Try.func15, Try.ntmps15
  go_wp2
  refine bodyPost_ret (results_none rfl _ _ _) rfl ⟨rfl, ?_⟩
  exact (Below.refl _ _).alloc (Nat.le_refl _) _
def LearnPost (p : Nat) (S : Nat → Prop) (own : Mac) (ip : Int) (n : Nat) (L' : List Pe) (w : World) (e : Ending) (w' : World) : Prop :=
  e = .returned (.tuple #[]) ∧ ∃ S' n', PeAt w' p S' own ip n' L' ∧ n' ≤ n + 1 ∧ Kp S w S' w' ∧ ∀ b, S' b → b < w'.heap.size
set_option maxRecDepth 100000 in
set_option maxHeartbeats 2000000 in
theorem Learn_new (w : World) (p n : Nat) (S : Nat → Prop) (own : Mac) (ip : Int) (L : List Pe) (x : Int) (m : Mac) (h : PeAt w p S own ip n L) (hS : ∀ b, S b → b < w.heap.size) (hx : IsU x) (h0 : x ≠ 0) (hm : m.ok) (hnn : n < 1000000) (hl : lookP L x = none) (hlt : L.length < 16) :
    Calls Try.prog 15 #[.pointer (some ⟨p, 0, none⟩), .int .u32 x, .agg (macC m)] w (LearnPost p S own ip n (learnL L x m) w) := by
  obtain ⟨⟨how, hip, hok, hsp⟩, gm, vi, hP, hM, hR, hsg, hsv⟩ := h
  obtain ⟨a, c, rfl⟩ := owns_slice hR
  obtain ⟨k, hk⟩ : ∃ k, L.length = k := ⟨_, rfl⟩
  rw [hk] at hR hP hsv
  obtain ⟨g5, hg5⟩ : ∃ g, w.heap.size = g := ⟨_, rfl⟩
  obtain ⟨W1, hW1⟩ : ∃ W, W = w.alloc (.cells (macC m) 23) := ⟨_, rfl⟩
  have b1 : Below w.heap.size w W1 := by rw [hW1]; exact below_alloc (Below.refl _ _) (Nat.le_refl _) _
  have h5 : W1.heap[g5]? = some (.cells (macC m) 23 (0, 0)) := by rw [hW1, ← hg5]; exact alloc_new w _
  have hp1 := (b1.block p (Array.getElem?_eq_some_iff.1 hP).1).trans hP
  have hM1 : MapU W1 gm n (lookM L) := hM.keep (b1.block gm hM.lt)
  have hlk := hM1.look_ok Try.underlying71 (Try.zeroValue23 W1) hx
  obtain ⟨g6, hg6⟩ : ∃ g, W1.heap.size = g := ⟨_, rfl⟩
  obtain ⟨W2, hW2⟩ : ∃ W, W = W1.alloc (.cells #[.int .u8 0, .int .u8 0, .int .u8 0, .int .u8 0, .int .u8 0, .int .u8 0] 23) := ⟨_, rfl⟩
  have b12 : Below W1.heap.size W1 W2 := by rw [hW2]; exact below_alloc (Below.refl _ _) (Nat.le_refl _) _
  have h26 : W2.heap[g6]? = some (.cells zero6 23 (0, 0)) := by rw [hW2, ← hg6]; exact alloc_new W1 _
  obtain ⟨mm, hmm⟩ : ∃ mm : Mac, (lookM L x).getD (.agg zero6) = .agg (macC mm) := by
    unfold lookM
    cases lookP L x with
    | none => exact ⟨mac0, rfl⟩
    | some e => exact ⟨e.mac, rfl⟩
  have hsome : (lookM L x).isSome = (lookP L x).isSome := by unfold lookM; cases lookP L x <;> rfl
  have hlk2 : (Instr.lookup 71 (.map (some gm)) (.int .u32 x) true).run Try.prog W1 = .ok (.tuple #[.agg (macC mm), .bool (lookP L x).isSome]) W1 := by rw [← hmm, ← hsome]; exact hlk
  obtain ⟨W3, hW3⟩ : ∃ W, W = W2.setRow g6 (macC mm) := ⟨_, rfl⟩
  have hB2 := b1.trans (b12.mono b1.size)
  have hB3 : Below w.heap.size w W3 := by rw [hW3]; exact (setRow_mods _ _ _).to_below hB2 hB2.size (fun y hy => by rw [hy, ← hg6]; exact b1.size)
  have oth3 : ∀ y, y < W1.heap.size → W3.heap[y]? = W1.heap[y]? := fun y hy => by rw [hW3, setRow_other _ _ _ _ (by omega)]; exact b12.block y hy
  have h53 := (oth3 g5 (Array.getElem?_eq_some_iff.1 h5).1).trans h5
  have hp3 := (oth3 p (Array.getElem?_eq_some_iff.1 hp1).1).trans hp1
  have hns : ¬ S g5 := fun e => by have := hS g5 e; omega
  have hpe3 : PeAt W3 p S own ip n L := PeAt.later (w := w) ⟨⟨how, hip, hok, hsp⟩, gm, _, hP, hM, by rw [hk]; exact hR, hsg, hsv⟩ hB3
  have hM3 : MapU W3 gm n (lookM L) := hM.keep (hB3.block gm hM.lt)
  have hR3 : W3.ownsRow 0 40 1 (.slice a k c) k (u32v (L.map Pe.ip)) := owns_keep hR (fun g hg => hB3.block g (owns_lt hR hg).1)
  have hS3 : ∀ b, S b → b < W3.heap.size := fun b hb => Nat.lt_of_lt_of_le (hS b hb) hB3.size
  have hc7 : W1.cell? ⟨p, 7, none⟩ = some (.map (some gm)) := cell_of hp1 rfl
  have HNS := hid hns
  have H26 := hid h26
  have HB3 := hid hB3
  have HW := hW1.symm
  have HV := hW2.symm
  have HX := hid hx
  have HM := hid hm
  rw [hl] at hlk2
  have HTL := hid (learn_tail W3 p n gm k S own ip L x m a c hp3 hM3 hR3 hk hsp hsg hsv hS3 how hip hok HX.out h0 HM.out (by omega) hl hnn)
  have HPW := hid hp3
  have H5W := hid h53
  have HLE := hid (learn_new (m := m) h0 hl hlt)
  have hc83 : W3.cell? ⟨p, 8, none⟩ = some (.slice a k c) := cell_of hp3 rfl
  have hk16 : ¬ ((k : Int) = 16) := by omega
  have h0' : (x == 0) = false := by simpa using h0
  clear hW1 hW2 b1 h5 hp1 hM1 hlk b12 h26 hmm hsome hB2 hB3 oth3 hns hx hm hP hM hR hp3 h53 hM3 hR3 hpe3 hS3 hsp hsg hsv hS how hip hok hk hl hlt hnn
  go_enter Try.func15, Try.ntmps15
  go_upto_region 7 with (refine wpList_store_row rfl 23 _ _ rfl g6 (macC mm) rfl rfl 23 _ H26.out size6 rfl (macC_one mm) ?_; rw [← hW3]; clear hW3)
  obtain ⟨W5, hup, hp5, ho5, a7, c7, w7, hap, hp7, S', hPE, hKP, hSS⟩ := HTL.out
  have HPE := hid hPE
  have HKP := hid hKP
  have HSS := hid hSS
  have hc8 := cell_of hp7 (i := 8) (v := .slice a k c) rfl
  have hf8 := froz_of hp7 8
  have hc85 := cell_of hp5 (i := 8) (v := .slice a k c) rfl
  have hS5 : W5.heap[g5]? = _ := (ho5 g5 (Array.getElem?_eq_some_iff.1 H5W.out).1 HNS.out).trans H5W.out
  have HP5 := hid hp5
  have HS5 := hid hS5
  clear hPE hKP hSS hp5 ho5 hp7 hS5 HTL
  refine wp_region_held_drew (S := fun W => W.heap[p]? = some (.cells (peC own ip gm (.slice a k c)) 73 (0, 0)) ∧ W.heap[g5]? = some (.cells (macC m) 23 (0, 0))) (by kernel_rfl) ⟨HPW.out, H5W.out⟩ (fun hS7 => ?_)
  refine nany_take 0 37 (.pointer (some ⟨p, 0, none⟩)) rfl rfl (by kernel_rfl) (by kernel_rfl) (by kernel_rfl) (fun _ _ _ h => h) (Or.inl ⟨by rfl, ?_⟩) hS7 ?_
  · rintro w' hS'
    go_simp
  simp only [List.setIfInBounds_toArray, List.set_cons_zero, List.set_cons_succ]
  refine nany_take 1 38 (.pointer (some ⟨p, 0, none⟩)) rfl rfl (by kernel_rfl) (by kernel_rfl) (by kernel_rfl) (fun _ _ _ h => h) (Or.inl ⟨by rfl, ?_⟩) hS7 ?_
  · rintro w' hS'
    go_simp
  simp only [List.setIfInBounds_toArray, List.set_cons_zero, List.set_cons_succ]
  refine nany_take 2 39 (.pointer (some ⟨p, 7, none⟩)) rfl rfl (by kernel_rfl) (by kernel_rfl) (by kernel_rfl) (fun _ _ _ h => h) (Or.inl ⟨by rfl, ?_⟩) hS7 ?_
  · rintro w' hS'
    go_simp
  simp only [List.setIfInBounds_toArray, List.set_cons_zero, List.set_cons_succ]
  refine nany_take 3 40 (.map (some gm)) rfl rfl (by kernel_rfl) (by kernel_rfl) (by kernel_rfl) (fun _ _ _ h => h) (Or.inl ⟨by rfl, ?_⟩) hS7 ?_
  · rintro w' hS'
    have hc := cell_of hS'.1 (i := 7) (v := .map (some gm)) rfl; go_simp
  simp only [List.setIfInBounds_toArray, List.set_cons_zero, List.set_cons_succ]
  refine nany_take 4 41 (.int .u32 x) rfl rfl (by kernel_rfl) (by kernel_rfl) (by kernel_rfl) (fun _ _ _ h => h) (Or.inl ⟨by rfl, ?_⟩) hS7 ?_
  · rintro w' hS'
    go_simp
  simp only [List.setIfInBounds_toArray, List.set_cons_zero, List.set_cons_succ]
  refine nany_take 5 42 (.agg (macC m)) rfl rfl (by kernel_rfl) (by kernel_rfl) (by kernel_rfl) (fun _ _ _ h => h) (Or.inl ⟨by rfl, ?_⟩) hS7 ?_
  · rintro w' hS'
    exact ex_mid 23 _ rfl g5 0 rfl [.int .u8 m.a, .int .u8 m.b, .int .u8 m.c, .int .u8 m.d, .int .u8 m.e, .int .u8 m.f] (rng hS'.2 0 _ (range6 rfl rfl rfl rfl rfl rfl)) _ Try.underlying23 rfl size6
  simp only [List.setIfInBounds_toArray, List.set_cons_zero, List.set_cons_succ]
  refine nany_one 6 (by kernel_rfl) ?_
  refine nop_skip (w' := W5) rfl (by rfl) rfl (by unfold execOp; simp [Act.eval, hup, Result.andThen]) ?_
  refine ⟨⟨HP5.out, HS5.out⟩, ?_⟩
  refine wpAnyH_done (by kernel_rfl) ?_ _
  clear hS7 hup
  go_wp2_with (at_builtin; refine wpList_append_run rfl _ _ 52 rfl rfl rfl hap ?_)
  go_end0
  refine ⟨rfl, S', n + 1, ?_, Nat.le_refl _, ?_, HSS.out⟩
  · rw [HLE.out]; exact HPE.out
  · exact ((Kp.below HB3.out).trans HKP.out)

set_option maxRecDepth 100000 in
set_option maxHeartbeats 2000000 in
theorem Learn_old (w : World) (p n : Nat) (S : Nat → Prop) (own : Mac) (ip : Int) (L : List Pe) (x : Int) (m : Mac) (h : PeAt w p S own ip n L) (hS : ∀ b, S b → b < w.heap.size) (hx : IsU x) (h0 : x ≠ 0) (hm : m.ok) (hnn : n < 1000000) (e0 : Pe) (hl : lookP L x = some e0) :
    Calls Try.prog 15 #[.pointer (some ⟨p, 0, none⟩), .int .u32 x, .agg (macC m)] w (LearnPost p S own ip n (learnL L x m) w) := by
  obtain ⟨⟨how, hip, hok, hsp⟩, gm, vi, hP, hM, hR, hsg, hsv⟩ := h
  obtain ⟨a, c, rfl⟩ := owns_slice hR
  obtain ⟨k, hk⟩ : ∃ k, L.length = k := ⟨_, rfl⟩
  rw [hk] at hR hP hsv
  obtain ⟨g5, hg5⟩ : ∃ g, w.heap.size = g := ⟨_, rfl⟩
  obtain ⟨W1, hW1⟩ : ∃ W, W = w.alloc (.cells (macC m) 23) := ⟨_, rfl⟩
  have b1 : Below w.heap.size w W1 := by rw [hW1]; exact below_alloc (Below.refl _ _) (Nat.le_refl _) _
  have h5 : W1.heap[g5]? = some (.cells (macC m) 23 (0, 0)) := by rw [hW1, ← hg5]; exact alloc_new w _
  have hp1 := (b1.block p (Array.getElem?_eq_some_iff.1 hP).1).trans hP
  have hM1 : MapU W1 gm n (lookM L) := hM.keep (b1.block gm hM.lt)
  have hlk := hM1.look_ok Try.underlying71 (Try.zeroValue23 W1) hx
  obtain ⟨g6, hg6⟩ : ∃ g, W1.heap.size = g := ⟨_, rfl⟩
  obtain ⟨W2, hW2⟩ : ∃ W, W = W1.alloc (.cells #[.int .u8 0, .int .u8 0, .int .u8 0, .int .u8 0, .int .u8 0, .int .u8 0] 23) := ⟨_, rfl⟩
  have b12 : Below W1.heap.size W1 W2 := by rw [hW2]; exact below_alloc (Below.refl _ _) (Nat.le_refl _) _
  have h26 : W2.heap[g6]? = some (.cells zero6 23 (0, 0)) := by rw [hW2, ← hg6]; exact alloc_new W1 _
  obtain ⟨mm, hmm⟩ : ∃ mm : Mac, (lookM L x).getD (.agg zero6) = .agg (macC mm) := by
    unfold lookM
    cases lookP L x with
    | none => exact ⟨mac0, rfl⟩
    | some e => exact ⟨e.mac, rfl⟩
  have hsome : (lookM L x).isSome = (lookP L x).isSome := by unfold lookM; cases lookP L x <;> rfl
  have hlk2 : (Instr.lookup 71 (.map (some gm)) (.int .u32 x) true).run Try.prog W1 = .ok (.tuple #[.agg (macC mm), .bool (lookP L x).isSome]) W1 := by rw [← hmm, ← hsome]; exact hlk
  obtain ⟨W3, hW3⟩ : ∃ W, W = W2.setRow g6 (macC mm) := ⟨_, rfl⟩
  have hB2 := b1.trans (b12.mono b1.size)
  have hB3 : Below w.heap.size w W3 := by rw [hW3]; exact (setRow_mods _ _ _).to_below hB2 hB2.size (fun y hy => by rw [hy, ← hg6]; exact b1.size)
  have oth3 : ∀ y, y < W1.heap.size → W3.heap[y]? = W1.heap[y]? := fun y hy => by rw [hW3, setRow_other _ _ _ _ (by omega)]; exact b12.block y hy
  have h53 := (oth3 g5 (Array.getElem?_eq_some_iff.1 h5).1).trans h5
  have hp3 := (oth3 p (Array.getElem?_eq_some_iff.1 hp1).1).trans hp1
  have hns : ¬ S g5 := fun e => by have := hS g5 e; omega
  have hpe3 : PeAt W3 p S own ip n L := PeAt.later (w := w) ⟨⟨how, hip, hok, hsp⟩, gm, _, hP, hM, by rw [hk]; exact hR, hsg, hsv⟩ hB3
  have hM3 : MapU W3 gm n (lookM L) := hM.keep (hB3.block gm hM.lt)
  have hR3 : W3.ownsRow 0 40 1 (.slice a k c) k (u32v (L.map Pe.ip)) := owns_keep hR (fun g hg => hB3.block g (owns_lt hR hg).1)
  have hS3 : ∀ b, S b → b < W3.heap.size := fun b hb => Nat.lt_of_lt_of_le (hS b hb) hB3.size
  have hc7 : W1.cell? ⟨p, 7, none⟩ = some (.map (some gm)) := cell_of hp1 rfl
  have HNS := hid hns
  have H26 := hid h26
  have HB3 := hid hB3
  have HW := hW1.symm
  have HV := hW2.symm
  have HX := hid hx
  have HM := hid hm
  rw [hl] at hlk2
  have hlen := hok.len
  have hdl := drop_lt hl
  have HFG := hid (forget_any W3 p n S own ip L x HX.out hpe3 hS3 (by omega))
  have HS3 := hid hS3
  have H53 := hid h53
  have HX0 := hid h0
  have HLT : Hid ((dropP L x).length < 16) := hid (by omega)
  have HLN := hid (look_dropped L x)
  have HNN := hid hnn
  have HLE := hid (learn_old (m := m) h0 hok hl)
  have h0' : (x == 0) = false := by simpa using h0
  clear hW1 hW2 b1 h5 hp1 hM1 hlk b12 h26 hmm hsome hB2 hB3 oth3 hns hx hm hP hM hR hp3 h53 hM3 hR3 hpe3 hS3 hsp hsg hsv hS how hip hok hk hl hnn hlen hdl h0
  go_enter Try.func15, Try.ntmps15
  go_upto_region 7 with (first | (go_at_call 32; refine HFG.out.mono ?_; rintro e w4 ⟨rfl, hpe4, hm4⟩; have HPE4 := hid hpe4; have HM4 := hid hm4; clear hpe4 hm4) | (refine wpList_store_row rfl 23 _ _ rfl g6 (macC mm) rfl rfl 23 _ H26.out size6 rfl (macC_one mm) ?_; rw [← hW3]; clear hW3))
  obtain ⟨⟨how4, hip4, hok4, hsp4⟩, gm4, vi4, hP4, hMM4, hR4, hsg4, hsv4⟩ := HPE4.out
  obtain ⟨a4, c4, rfl⟩ := owns_slice hR4
  obtain ⟨k4, hk4⟩ : ∃ k, (dropP L x).length = k := ⟨_, rfl⟩
  rw [hk4] at hR4 hP4 hsv4
  have hS4 : ∀ b, S b → b < w4.heap.size := fun b hb => Nat.lt_of_lt_of_le (HS3.out b hb) HM4.out.size
  have h54 := (HM4.out.block g5 (Array.getElem?_eq_some_iff.1 H53.out).1 HNS.out).trans H53.out
  have HTL := hid (learn_tail w4 p n gm4 k4 S own ip (dropP L x) x m a4 c4 hP4 hMM4 hR4 hk4 hsp4 hsg4 hsv4 hS4 how4 hip4 hok4 HX.out HX0.out HM.out (by rw [← hk4]; exact HLT.out) HLN.out HNN.out)
  have HPW := hid hP4
  have H5W := hid h54
  clear how4 hip4 hok4 hsp4 hP4 hMM4 hR4 hsg4 hsv4 hk4 hS4 h54
  obtain ⟨W5, hup, hp5, ho5, a7, c7, w7, hap, hp7, S', hPE, hKP, hSS⟩ := HTL.out
  have HPE := hid hPE
  have HKP := hid hKP
  have HSS := hid hSS
  have hc8 := cell_of hp7 (i := 8) (v := .slice a4 k4 c4) rfl
  have hf8 := froz_of hp7 8
  have hc85 := cell_of hp5 (i := 8) (v := .slice a4 k4 c4) rfl
  have hS5 : W5.heap[g5]? = _ := (ho5 g5 (Array.getElem?_eq_some_iff.1 H5W.out).1 HNS.out).trans H5W.out
  have HP5 := hid hp5
  have HS5 := hid hS5
  clear hPE hKP hSS hp5 ho5 hp7 hS5 HTL
  refine wp_region_held_drew (S := fun W => W.heap[p]? = some (.cells (peC own ip gm4 (.slice a4 k4 c4)) 73 (0, 0)) ∧ W.heap[g5]? = some (.cells (macC m) 23 (0, 0))) (by kernel_rfl) ⟨HPW.out, H5W.out⟩ (fun hS7 => ?_)
  refine nany_take 0 37 (.pointer (some ⟨p, 0, none⟩)) rfl rfl (by kernel_rfl) (by kernel_rfl) (by kernel_rfl) (fun _ _ _ h => h) (Or.inl ⟨by rfl, ?_⟩) hS7 ?_
  · rintro w' hS'
    go_simp
  simp only [List.setIfInBounds_toArray, List.set_cons_zero, List.set_cons_succ]
  refine nany_take 1 38 (.pointer (some ⟨p, 0, none⟩)) rfl rfl (by kernel_rfl) (by kernel_rfl) (by kernel_rfl) (fun _ _ _ h => h) (Or.inl ⟨by rfl, ?_⟩) hS7 ?_
  · rintro w' hS'
    go_simp
  simp only [List.setIfInBounds_toArray, List.set_cons_zero, List.set_cons_succ]
  refine nany_take 2 39 (.pointer (some ⟨p, 7, none⟩)) rfl rfl (by kernel_rfl) (by kernel_rfl) (by kernel_rfl) (fun _ _ _ h => h) (Or.inl ⟨by rfl, ?_⟩) hS7 ?_
  · rintro w' hS'
    go_simp
  simp only [List.setIfInBounds_toArray, List.set_cons_zero, List.set_cons_succ]
  refine nany_take 3 40 (.map (some gm4)) rfl rfl (by kernel_rfl) (by kernel_rfl) (by kernel_rfl) (fun _ _ _ h => h) (Or.inl ⟨by rfl, ?_⟩) hS7 ?_
  · rintro w' hS'
    have hc := cell_of hS'.1 (i := 7) (v := .map (some gm4)) rfl; go_simp
  simp only [List.setIfInBounds_toArray, List.set_cons_zero, List.set_cons_succ]
  refine nany_take 4 41 (.int .u32 x) rfl rfl (by kernel_rfl) (by kernel_rfl) (by kernel_rfl) (fun _ _ _ h => h) (Or.inl ⟨by rfl, ?_⟩) hS7 ?_
  · rintro w' hS'
    go_simp
  simp only [List.setIfInBounds_toArray, List.set_cons_zero, List.set_cons_succ]
  refine nany_take 5 42 (.agg (macC m)) rfl rfl (by kernel_rfl) (by kernel_rfl) (by kernel_rfl) (fun _ _ _ h => h) (Or.inl ⟨by rfl, ?_⟩) hS7 ?_
  · rintro w' hS'
    exact ex_mid 23 _ rfl g5 0 rfl [.int .u8 m.a, .int .u8 m.b, .int .u8 m.c, .int .u8 m.d, .int .u8 m.e, .int .u8 m.f] (rng hS'.2 0 _ (range6 rfl rfl rfl rfl rfl rfl)) _ Try.underlying23 rfl size6
  simp only [List.setIfInBounds_toArray, List.set_cons_zero, List.set_cons_succ]
  refine nany_one 6 (by kernel_rfl) ?_
  refine nop_skip (w' := W5) rfl (by rfl) rfl (by unfold execOp; simp [Act.eval, hup, Result.andThen]) ?_
  refine ⟨⟨HP5.out, HS5.out⟩, ?_⟩
  refine wpAnyH_done (by kernel_rfl) ?_ _
  clear hS7 hup
  go_wp2_with (at_builtin; refine wpList_append_run rfl _ _ 52 rfl rfl rfl hap ?_)
  go_end0
  refine ⟨rfl, S', n + 1, ?_, Nat.le_refl _, ?_, HSS.out⟩
  · rw [HLE.out]; exact HPE.out
  · exact ((Kp.below HB3.out).trans (Kp.trans ⟨fun b hb => .inl hb, HM4.out⟩ HKP.out))

set_option maxRecDepth 100000 in
set_option maxHeartbeats 2000000 in
theorem Learn_full (w : World) (p n : Nat) (S : Nat → Prop) (own : Mac) (ip : Int) (L : List Pe) (x : Int) (m : Mac) (h : PeAt w p S own ip n L) (hS : ∀ b, S b → b < w.heap.size) (hx : IsU x) (h0 : x ≠ 0) (hm : m.ok) (hnn : n < 1000000) (hl : lookP L x = none) (hlt : L.length = 16) :
    Calls Try.prog 15 #[.pointer (some ⟨p, 0, none⟩), .int .u32 x, .agg (macC m)] w (LearnPost p S own ip n (learnL L x m) w) := by
  obtain ⟨⟨how, hip, hok, hsp⟩, gm, vi, hP, hM, hR, hsg, hsv⟩ := h
  obtain ⟨a, c, rfl⟩ := owns_slice hR
  obtain ⟨k, hk⟩ : ∃ k, L.length = k := ⟨_, rfl⟩
  rw [hk] at hR hP hsv
  obtain ⟨g5, hg5⟩ : ∃ g, w.heap.size = g := ⟨_, rfl⟩
  obtain ⟨W1, hW1⟩ : ∃ W, W = w.alloc (.cells (macC m) 23) := ⟨_, rfl⟩
  have b1 : Below w.heap.size w W1 := by rw [hW1]; exact below_alloc (Below.refl _ _) (Nat.le_refl _) _
  have h5 : W1.heap[g5]? = some (.cells (macC m) 23 (0, 0)) := by rw [hW1, ← hg5]; exact alloc_new w _
  have hp1 := (b1.block p (Array.getElem?_eq_some_iff.1 hP).1).trans hP
  have hM1 : MapU W1 gm n (lookM L) := hM.keep (b1.block gm hM.lt)
  have hlk := hM1.look_ok Try.underlying71 (Try.zeroValue23 W1) hx
  obtain ⟨g6, hg6⟩ : ∃ g, W1.heap.size = g := ⟨_, rfl⟩
  obtain ⟨W2, hW2⟩ : ∃ W, W = W1.alloc (.cells #[.int .u8 0, .int .u8 0, .int .u8 0, .int .u8 0, .int .u8 0, .int .u8 0] 23) := ⟨_, rfl⟩
  have b12 : Below W1.heap.size W1 W2 := by rw [hW2]; exact below_alloc (Below.refl _ _) (Nat.le_refl _) _
  have h26 : W2.heap[g6]? = some (.cells zero6 23 (0, 0)) := by rw [hW2, ← hg6]; exact alloc_new W1 _
  obtain ⟨mm, hmm⟩ : ∃ mm : Mac, (lookM L x).getD (.agg zero6) = .agg (macC mm) := by
    unfold lookM
    cases lookP L x with
    | none => exact ⟨mac0, rfl⟩
    | some e => exact ⟨e.mac, rfl⟩
  have hsome : (lookM L x).isSome = (lookP L x).isSome := by unfold lookM; cases lookP L x <;> rfl
  have hlk2 : (Instr.lookup 71 (.map (some gm)) (.int .u32 x) true).run Try.prog W1 = .ok (.tuple #[.agg (macC mm), .bool (lookP L x).isSome]) W1 := by rw [← hmm, ← hsome]; exact hlk
  obtain ⟨W3, hW3⟩ : ∃ W, W = W2.setRow g6 (macC mm) := ⟨_, rfl⟩
  have hB2 := b1.trans (b12.mono b1.size)
  have hB3 : Below w.heap.size w W3 := by rw [hW3]; exact (setRow_mods _ _ _).to_below hB2 hB2.size (fun y hy => by rw [hy, ← hg6]; exact b1.size)
  have oth3 : ∀ y, y < W1.heap.size → W3.heap[y]? = W1.heap[y]? := fun y hy => by rw [hW3, setRow_other _ _ _ _ (by omega)]; exact b12.block y hy
  have h53 := (oth3 g5 (Array.getElem?_eq_some_iff.1 h5).1).trans h5
  have hp3 := (oth3 p (Array.getElem?_eq_some_iff.1 hp1).1).trans hp1
  have hns : ¬ S g5 := fun e => by have := hS g5 e; omega
  have hpe3 : PeAt W3 p S own ip n L := PeAt.later (w := w) ⟨⟨how, hip, hok, hsp⟩, gm, _, hP, hM, by rw [hk]; exact hR, hsg, hsv⟩ hB3
  have hM3 : MapU W3 gm n (lookM L) := hM.keep (hB3.block gm hM.lt)
  have hR3 : W3.ownsRow 0 40 1 (.slice a k c) k (u32v (L.map Pe.ip)) := owns_keep hR (fun g hg => hB3.block g (owns_lt hR hg).1)
  have hS3 : ∀ b, S b → b < W3.heap.size := fun b hb => Nat.lt_of_lt_of_le (hS b hb) hB3.size
  have hc7 : W1.cell? ⟨p, 7, none⟩ = some (.map (some gm)) := cell_of hp1 rfl
  have HNS := hid hns
  have H26 := hid h26
  have HB3 := hid hB3
  have HW := hW1.symm
  have HV := hW2.symm
  have HX := hid hx
  have HM := hid hm
  rw [hl] at hlk2
  obtain rfl : k = 16 := by omega
  obtain ⟨y, hy⟩ : ∃ y, y = (L.getD 0 ⟨0, m⟩).ip := ⟨_, rfl⟩
  have hyU : IsU y := by
    match L, hlt with
    | e :: r, _ => rw [hy]; exact (hok.ok e (by simp)).1
  obtain ⟨ga, hga, hcy⟩ : ∃ ga, a = some ⟨ga, 0, none⟩ ∧ W3.cell? ⟨ga, 0, none⟩ = some (.int .u32 y) := by
    rcases hR3.2 with ⟨e, h0⟩ | ⟨g, cap, cur, e, _, hh, h1, h2, h3, h4⟩
    · omega
    · simp only [Value.slice.injEq, true_and] at e
      obtain ⟨rfl, rfl⟩ := e
      refine ⟨g, rfl, cell_of hh ?_⟩
      have e : (cur.toList.take (16 * 1))[0]? = (u32v (L.map Pe.ip))[0]? := by rw [h4]
      rw [List.getElem?_take, if_pos (by omega), Array.getElem?_toList, u32v_get (by simp; omega)] at e
      rw [e, hy]
      match L, hlt with
      | e :: r, _ => rfl
  subst hga
  have HFG := hid (forget_any W3 p n S own ip L y hyU hpe3 hS3 (by omega))
  have HS3 := hid hS3
  have H53 := hid h53
  have HX0 := hid h0
  have HLE := hid (learn_full (m := m) h0 hl hlt hok)
  rw [← hy] at HLE
  have HLT : Hid ((dropP L y).length < 16) := hid (by
    have e1 : dropP L y = L.drop 1 := by
      match L, hlt with
      | e :: r, _ => rw [hy]; exact drop_head hok
    rw [e1]; simp; omega)
  have HLN : Hid (lookP (dropP L y) x = none) := hid (by rw [look_drop, hl]; split <;> rfl)
  have HNN := hid hnn
  have hc83 : W3.cell? ⟨p, 8, none⟩ = some (.slice (some ⟨ga, 0, none⟩) 16 c) := cell_of hp3 rfl
  have h0' : (x == 0) = false := by simpa using h0
  clear hW1 hW2 b1 h5 hp1 hM1 hlk b12 h26 hmm hsome hB2 hB3 oth3 hns hx hm hP hM hR hp3 h53 hM3 hR3 hpe3 hS3 hsp hsg hsv hS how hip hok hk hl hlt hnn h0 hy hyU
  go_enter Try.func15, Try.ntmps15
  go_upto_region 7 with (first | (go_at_call 32; refine HFG.out.mono ?_; rintro e w4 ⟨rfl, hpe4, hm4⟩; have HPE4 := hid hpe4; have HM4 := hid hm4; clear hpe4 hm4) | (refine wpList_store_row rfl 23 _ _ rfl g6 (macC mm) rfl rfl 23 _ H26.out size6 rfl (macC_one mm) ?_; rw [← hW3]; clear hW3))
  obtain ⟨⟨how4, hip4, hok4, hsp4⟩, gm4, vi4, hP4, hMM4, hR4, hsg4, hsv4⟩ := HPE4.out
  obtain ⟨a4, c4, rfl⟩ := owns_slice hR4
  obtain ⟨k4, hk4⟩ : ∃ k, (dropP L y).length = k := ⟨_, rfl⟩
  rw [hk4] at hR4 hP4 hsv4
  have hS4 : ∀ b, S b → b < w4.heap.size := fun b hb => Nat.lt_of_lt_of_le (HS3.out b hb) HM4.out.size
  have h54 := (HM4.out.block g5 (Array.getElem?_eq_some_iff.1 H53.out).1 HNS.out).trans H53.out
  have HTL := hid (learn_tail w4 p n gm4 k4 S own ip (dropP L y) x m a4 c4 hP4 hMM4 hR4 hk4 hsp4 hsg4 hsv4 hS4 how4 hip4 hok4 HX.out HX0.out HM.out (by rw [← hk4]; exact HLT.out) HLN.out HNN.out)
  have HPW := hid hP4
  have H5W := hid h54
  clear how4 hip4 hok4 hsp4 hP4 hMM4 hR4 hsg4 hsv4 hk4 hS4 h54
  obtain ⟨W5, hup, hp5, ho5, a7, c7, w7, hap, hp7, S', hPE, hKP, hSS⟩ := HTL.out
  have HPE := hid hPE
  have HKP := hid hKP
  have HSS := hid hSS
  have hc8 := cell_of hp7 (i := 8) (v := .slice a4 k4 c4) rfl
  have hf8 := froz_of hp7 8
  have hc85 := cell_of hp5 (i := 8) (v := .slice a4 k4 c4) rfl
  have hS5 : W5.heap[g5]? = _ := (ho5 g5 (Array.getElem?_eq_some_iff.1 H5W.out).1 HNS.out).trans H5W.out
  have HP5 := hid hp5
  have HS5 := hid hS5
  clear hPE hKP hSS hp5 ho5 hp7 hS5 HTL
  refine wp_region_held_drew (S := fun W => W.heap[p]? = some (.cells (peC own ip gm4 (.slice a4 k4 c4)) 73 (0, 0)) ∧ W.heap[g5]? = some (.cells (macC m) 23 (0, 0))) (by kernel_rfl) ⟨HPW.out, H5W.out⟩ (fun hS7 => ?_)
  refine nany_take 0 37 (.pointer (some ⟨p, 0, none⟩)) rfl rfl (by kernel_rfl) (by kernel_rfl) (by kernel_rfl) (fun _ _ _ h => h) (Or.inl ⟨by rfl, ?_⟩) hS7 ?_
  · rintro w' hS'
    go_simp
  simp only [List.setIfInBounds_toArray, List.set_cons_zero, List.set_cons_succ]
  refine nany_take 1 38 (.pointer (some ⟨p, 0, none⟩)) rfl rfl (by kernel_rfl) (by kernel_rfl) (by kernel_rfl) (fun _ _ _ h => h) (Or.inl ⟨by rfl, ?_⟩) hS7 ?_
  · rintro w' hS'
    go_simp
  simp only [List.setIfInBounds_toArray, List.set_cons_zero, List.set_cons_succ]
  refine nany_take 2 39 (.pointer (some ⟨p, 7, none⟩)) rfl rfl (by kernel_rfl) (by kernel_rfl) (by kernel_rfl) (fun _ _ _ h => h) (Or.inl ⟨by rfl, ?_⟩) hS7 ?_
  · rintro w' hS'
    go_simp
  simp only [List.setIfInBounds_toArray, List.set_cons_zero, List.set_cons_succ]
  refine nany_take 3 40 (.map (some gm4)) rfl rfl (by kernel_rfl) (by kernel_rfl) (by kernel_rfl) (fun _ _ _ h => h) (Or.inl ⟨by rfl, ?_⟩) hS7 ?_
  · rintro w' hS'
    have hc := cell_of hS'.1 (i := 7) (v := .map (some gm4)) rfl; go_simp
  simp only [List.setIfInBounds_toArray, List.set_cons_zero, List.set_cons_succ]
  refine nany_take 4 41 (.int .u32 x) rfl rfl (by kernel_rfl) (by kernel_rfl) (by kernel_rfl) (fun _ _ _ h => h) (Or.inl ⟨by rfl, ?_⟩) hS7 ?_
  · rintro w' hS'
    go_simp
  simp only [List.setIfInBounds_toArray, List.set_cons_zero, List.set_cons_succ]
  refine nany_take 5 42 (.agg (macC m)) rfl rfl (by kernel_rfl) (by kernel_rfl) (by kernel_rfl) (fun _ _ _ h => h) (Or.inl ⟨by rfl, ?_⟩) hS7 ?_
  · rintro w' hS'
    exact ex_mid 23 _ rfl g5 0 rfl [.int .u8 m.a, .int .u8 m.b, .int .u8 m.c, .int .u8 m.d, .int .u8 m.e, .int .u8 m.f] (rng hS'.2 0 _ (range6 rfl rfl rfl rfl rfl rfl)) _ Try.underlying23 rfl size6
  simp only [List.setIfInBounds_toArray, List.set_cons_zero, List.set_cons_succ]
  refine nany_one 6 (by kernel_rfl) ?_
  refine nop_skip (w' := W5) rfl (by rfl) rfl (by unfold execOp; simp [Act.eval, hup, Result.andThen]) ?_
  refine ⟨⟨HP5.out, HS5.out⟩, ?_⟩
  refine wpAnyH_done (by kernel_rfl) ?_ _
  clear hS7 hup
  go_wp2_with (at_builtin; refine wpList_append_run rfl _ _ 52 rfl rfl rfl hap ?_)
  go_end0
  refine ⟨rfl, S', n + 1, ?_, Nat.le_refl _, ?_, HSS.out⟩
  · rw [HLE.out]; exact HPE.out
  · exact ((Kp.below HB3.out).trans (Kp.trans ⟨fun b hb => .inl hb, HM4.out⟩ HKP.out))

end Go.Proofs.Ytlflbpemjlgdiaa
