/- Peers: New, Learn, Find, Known, Ask. -/
import Derived.Test.YtlflbpemjlgdiaaEdD
namespace Go.Proofs.Ytlflbpemjlgdiaa
open Go.RowKit Go.Maps
set_option linter.unusedVariables false

theorem Learn_any (w : World) (p n : Nat) (S : Nat → Prop) (own : Mac) (ip : Int) (L : List Pe) (x : Int) (m : Mac) (h : PeAt w p S own ip n L) (hS : ∀ b, S b → b < w.heap.size) (hx : IsU x) (hm : m.ok) (hnn : n < 1000000) :
    Calls Try.prog 15 #[.pointer (some ⟨p, 0, none⟩), .int .u32 x, .agg (macC m)] w (LearnPost p S own ip n (learnL L x m) w) := by
  by_cases h0 : x = 0
  · subst h0
    refine (Learn_zero w p m).mono ?_
    rintro e w' ⟨rfl, hb⟩
    rw [learn_zero]
    exact ⟨rfl, S, n, h.later hb, by omega, Kp.below hb, fun b hb2 => Nat.lt_of_lt_of_le (hS b hb2) hb.size⟩
  · cases hl : lookP L x with
    | some e => exact Learn_old w p n S own ip L x m h hS hx h0 hm hnn e hl
    | none =>
      have := h.okL.len
      by_cases h16 : L.length = 16
      · exact Learn_full w p n S own ip L x m h hS hx h0 hm hnn hl h16
      · exact Learn_new w p n S own ip L x m h hS hx h0 hm hnn hl (by omega)
theorem OkL.nil : OkL [] := ⟨fun e he => by simp at he, by simp, by simp⟩
set_option maxRecDepth 100000 in
set_option maxHeartbeats 1000000 in
theorem New_any (w : World) (own : Mac) (ip : Int) (how : own.ok) (hip : IsU ip) :
    Calls Try.prog 14 #[.agg (macC own), .int .u32 ip] w fun e w' => ∃ p S, e = .returned (.pointer (some ⟨p, 0, none⟩)) ∧ PeAt w' p S own ip 0 [] ∧ Below w.heap.size w w' ∧ ∀ b, S b → w.heap.size ≤ b ∧ b < w'.heap.size := by
  obtain ⟨g1, hg1⟩ : ∃ g, w.heap.size = g := ⟨_, rfl⟩
  obtain ⟨W1, hW1⟩ : ∃ W, W = w.alloc (.cells (macC own) 23) := ⟨_, rfl⟩
  have b1 : Below w.heap.size w W1 := by rw [hW1]; exact below_alloc (Below.refl _ _) (Nat.le_refl _) _
  have h1 : W1.heap[g1]? = some (.cells (macC own) 23 (0, 0)) := by rw [hW1, ← hg1]; exact alloc_new w _
  obtain ⟨gm, hgm⟩ : ∃ g, W1.heap.size = g := ⟨_, rfl⟩
  obtain ⟨W2, hW2⟩ : ∃ W, W = W1.alloc (.map #[] 0) := ⟨_, rfl⟩
  have b12 : Below W1.heap.size W1 W2 := by rw [hW2]; exact below_alloc (Below.refl _ _) (Nat.le_refl _) _
  have hM2 : MapU W2 gm 0 (lookM []) := by rw [hW2, ← hgm]; exact MapU.made W1
  obtain ⟨p, hp⟩ : ∃ g, W2.heap.size = g := ⟨_, rfl⟩
  obtain ⟨W3, hW3⟩ : ∃ W, W = W2.alloc (.cells (peC own ip gm (.slice none 0 0)) 73) := ⟨_, rfl⟩
  have b23 : Below W2.heap.size W2 W3 := by rw [hW3]; exact below_alloc (Below.refl _ _) (Nat.le_refl _) _
  have h3 : W3.heap[p]? = some (.cells (peC own ip gm (.slice none 0 0)) 73 (0, 0)) := by rw [hW3, ← hp]; exact alloc_new W2 _
  have hM3 : MapU W3 gm 0 (lookM []) := hM2.keep (b23.block gm hM2.lt)
  have hb2 := b1.trans (b12.mono b1.size)
  have HB3 := hid (hb2.trans (b23.mono hb2.size))
  have HPE : Hid (PeAt W3 p (fun b => b = p ∨ b = gm) own ip 0 []) := hid ⟨⟨how, hip, OkL.nil, .inl rfl⟩, gm, _, h3, hM3, ⟨by simp, .inl ⟨rfl, rfl⟩⟩, .inr rfl, fun g hg => by simp [Value.ownBlock] at hg⟩
  have HSS : Hid (∀ b, b = p ∨ b = gm → w.heap.size ≤ b ∧ b < W3.heap.size) := hid (fun b hb => by
    have e1 := (Array.getElem?_eq_some_iff.1 h3).1
    have e2 := hM3.lt
    have e3 := b1.size
    have e4 := hb2.size
    rcases hb with rfl | rfl <;> omega)
  have H1 := hid h1
  have HW := hW1.symm
  have HV := hW2.symm
  have HU := hW3.symm
  clear hW1 hW2 hW3 b1 b12 b23 h1 hM2 hM3 h3 hb2
  have hmm := @run_makeMap Try.prog
  go_enter Try.func14, Try.ntmps14
  go_wp2_with (refine wpList_load_row rfl 23 _ rfl g1 rfl 23 _ (0, 0) _ H1.out Try.underlying23 rfl size6 ?_)
  go_ret
  exact ⟨p, _, rfl, HPE.out, HB3.out, HSS.out⟩
def findM (L : List Pe) (x : Int) : Mac := ((lookP L x).map Pe.mac).getD mac0
theorem lookM_get (L : List Pe) (x : Int) : (lookM L x).getD (.agg zero6) = .agg (macC (findM L x)) := by
  unfold lookM findM; cases lookP L x <;> rfl
theorem lookM_is (L : List Pe) (x : Int) : (lookM L x).isSome = (lookP L x).isSome := by unfold lookM; cases lookP L x <;> rfl
set_option maxRecDepth 100000 in
set_option maxHeartbeats 1000000 in
theorem Find_any (w : World) (p n : Nat) (S : Nat → Prop) (own : Mac) (ip : Int) (L : List Pe) (x : Int) (h : PeAt w p S own ip n L) (hx : IsU x) :
    Calls Try.prog 22 #[.pointer (some ⟨p, 0, none⟩), .int .u32 x] w fun e w' => e = .returned (.tuple #[.agg (macC (findM L x)), .bool (lookP L x).isSome]) ∧ Below w.heap.size w w' := by
  obtain ⟨⟨how, hip, hok, hsp⟩, gm, vi, hP, hM, hR, hsg, hsv⟩ := h
  obtain ⟨a, c, rfl⟩ := owns_slice hR
  obtain ⟨g4, hg4⟩ : ∃ g, w.heap.size = g := ⟨_, rfl⟩
  obtain ⟨W1, hW1⟩ : ∃ W, W = w.alloc (.cells #[.int .u8 0, .int .u8 0, .int .u8 0, .int .u8 0, .int .u8 0, .int .u8 0] 23) := ⟨_, rfl⟩
  have b1 : Below w.heap.size w W1 := by rw [hW1]; exact below_alloc (Below.refl _ _) (Nat.le_refl _) _
  have h14 : W1.heap[g4]? = some (.cells zero6 23 (0, 0)) := by rw [hW1, ← hg4]; exact alloc_new w _
  have hp1 := (b1.block p (Array.getElem?_eq_some_iff.1 hP).1).trans hP
  have hM1 : MapU W1 gm n (lookM L) := hM.keep (b1.block gm hM.lt)
  have hlk := hM1.look_ok Try.underlying71 (Try.zeroValue23 W1) hx
  have hlk2 : (Instr.lookup 71 (.map (some gm)) (.int .u32 x) true).run Try.prog W1 = .ok (.tuple #[.agg (macC (findM L x)), .bool (lookP L x).isSome]) W1 := by rw [← lookM_get, ← lookM_is]; exact hlk
  generalize findM L x = mm at *
  obtain ⟨g6, hg6⟩ : ∃ g, W1.heap.size = g := ⟨_, rfl⟩
  obtain ⟨W2, hW2⟩ : ∃ W, W = W1.alloc (.cells #[.int .u8 0, .int .u8 0, .int .u8 0, .int .u8 0, .int .u8 0, .int .u8 0] 23) := ⟨_, rfl⟩
  have b12 : Below W1.heap.size W1 W2 := by rw [hW2]; exact below_alloc (Below.refl _ _) (Nat.le_refl _) _
  have h26 : W2.heap[g6]? = some (.cells zero6 23 (0, 0)) := by rw [hW2, ← hg6]; exact alloc_new W1 _
  obtain ⟨W3, hW3⟩ : ∃ W, W = W2.setRow g6 (macC mm) := ⟨_, rfl⟩
  have h36 : W3.heap[g6]? = some (.cells (macC mm) 23 (0, 0)) := by rw [hW3]; exact setRow_heap _ _ _ _ _ _ h26
  have h34 : W3.heap[g4]? = some (.cells zero6 23 (0, 0)) := by
    have := (Array.getElem?_eq_some_iff.1 h14).1
    rw [hW3, setRow_other _ _ _ _ (by omega)]; exact (b12.block g4 this).trans h14
  have hB2 := b1.trans (b12.mono b1.size)
  have hB3 : Below w.heap.size w W3 := by rw [hW3]; exact (setRow_mods _ _ _).to_below hB2 hB2.size (fun y hy => by rw [hy, ← hg6]; exact b1.size)
  have hc7 : W1.cell? ⟨p, 7, none⟩ = some (.map (some gm)) := cell_of hp1 rfl
  have H26 := hid h26
  have H36 := hid h36
  have H34 := hid h34
  have HB3 := hid hB3
  have HG4 := hid hg4
  have HW := hW1.symm
  have HV := hW2.symm
  generalize (lookP L x).isSome = bb at *
  clear hW1 hW2 b1 h14 hp1 hM1 hlk b12 h26 h36 h34 hB2 hB3 hP hM hR hsv hsg hsp hok how hip hx
  go_enter Try.func22, Try.ntmps22
  go_wp2_with (first
    | (refine wpList_store_row rfl 23 _ _ rfl g6 (macC mm) rfl rfl 23 _ H26.out size6 rfl (macC_one mm) ?_; rw [← hW3]; clear hW3)
    | (refine wpList_load_row rfl 23 _ rfl g6 rfl 23 _ (0, 0) _ H36.out Try.underlying23 rfl size6 ?_)
    | (refine wpList_store_row rfl 23 _ _ rfl g4 (macC mm) rfl rfl 23 _ H34.out size6 rfl (macC_one mm) ?_))
  refine bodyPost_ret (results_ca rfl _ _ g4 (macC mm) _ _ _ rfl (setRow_heap _ g4 _ _ _ _ H34.out) Try.underlying23 size6) rfl ⟨rfl, ?_⟩
  have hbw := (setRow_mods W3 g4 (macC mm)).to_below HB3.out HB3.out.size (fun y hy => by rw [hy, HG4.out]; exact Nat.le_refl _)
  first | exact hbw | (rw [HG4.out] at hbw; exact hbw)
/-- slices.Clone of a row of addresses. -/
theorem twinU (W : World) (a : Option Addr) (n c : Nat) (d : List Int) (hn : d.length = n) (hl : n ≤ 1000) (h : W.ownsRow 0 40 1 (.slice a n c) n (u32v d)) (ty : TypeId) :
    ∃ v2 w2, (Builtin.append_ #[52, 52] ty #[.slice (some ⟨W.heap.size, 0, none⟩) 0 0, .slice a n c]).run Try.prog (W.alloc (.cells #[] 40)) = .ok v2 w2 ∧ w2.ownsRow W.heap.size 40 1 v2 n (u32v d) ∧ Below W.heap.size W w2 := by
  have hb1 : Below W.heap.size W (W.alloc (.cells #[] 40)) := (Below.refl _ _).alloc (Nat.le_refl _) _
  have ho1 : (W.alloc (.cells #[] 40)).ownsRow W.heap.size 40 1 (.slice (some ⟨W.heap.size, 0, none⟩) 0 0) 0 [] := ⟨by simp, .inr ⟨W.heap.size, 0, #[], rfl, Nat.le_refl _, alloc_new W _, by simp, by simp, by simp, by simp⟩⟩
  by_cases hp : 0 < n
  · rcases h.2 with ⟨e, h0⟩ | ⟨g, cap, cur, e, _, hh, h1, h2, h3, h4⟩
    · omega
    simp only [Value.slice.injEq, true_and] at e
    obtain ⟨rfl, rfl⟩ := e
    have hcell : ∀ j u, (u32v d)[j]? = some u → (W.alloc (.cells #[] 40)).cell? ((⟨g, 0, none⟩ : Addr).add j) = some u := fun j u hj => by
      have hj2 : j < d.length := by have := (List.getElem?_eq_some_iff.1 hj).1; simpa using this
      rw [add_addr, Nat.zero_add]
      refine cell_later hb1 (cell_of hh ?_)
      have e : (cur.toList.take (n * 1))[j]? = (u32v d)[j]? := by rw [h4]
      rw [List.getElem?_take, if_pos (by omega), Array.getElem?_toList] at e
      rw [e]; exact hj
    obtain ⟨v7, w7, hap, ho7, hm7, hob7⟩ := app_gen (W.alloc (.cells #[] 40)) 52 ty 40 _ 4 Try.underlying52 info32 rfl (by omega) _ [] 0 rfl (owns_zero ho1) ⟨g, 0, none⟩ n c (u32v d) (by simp [hn]) hcell (fun u hu => by simp at hu; obtain ⟨y, _, rfl⟩ := hu; rfl) (by omega)
    rw [Nat.zero_add, List.nil_append] at ho7
    refine ⟨v7, w7, hap, owns_base ho7 (fun g hg => ?_), hm7.to_below hb1 hb1.size (fun b hb => by simp [Value.ownBlock] at hb; omega)⟩
    rcases hob7 with e | e
    · rw [e] at hg; simp [Value.ownBlock] at hg; omega
    · rw [e] at hg; simp at hg; omega
  · obtain rfl : n = 0 := by omega
    obtain rfl : d = [] := List.eq_nil_of_length_eq_zero hn
    obtain ⟨i0, hi, hz0, hz1, hz2⟩ := info32
    have hs : Src Try.prog i0.size 52 (.slice a 0 c) 0 [] (W.alloc (.cells #[] 40)) := by
      cases a with
      | none => exact Src.ofNil _ Try.underlying52 c
      | some ad => exact Src.ofSlice _ Try.underlying52 ad 0 c [] (by simp) (fun j u hj => by simp at hj) (fun u hu => by simp at hu)
    exact ⟨_, _, run_append_nothing _ 52 52 ty 40 i0 Try.underlying52 hi _ 0 0 (Nat.le_refl _) _ hs, ho1, hb1⟩
set_option maxRecDepth 100000 in
set_option maxHeartbeats 1000000 in
theorem CloneU_any (w : World) (a : Option Addr) (n c : Nat) (d : List Int) (hn : d.length = n) (hl : n ≤ 1000) (h : w.ownsRow 0 40 1 (.slice a n c) n (u32v d)) :
    Calls Try.prog 37 #[.slice a n c] w fun e w' => ∃ v, e = .returned v ∧ w'.ownsRow w.heap.size 40 1 v n (u32v d) ∧ Below w.heap.size w w' := by
  have qT : ∀ (w : World) (a : Option Addr) (n c n' c' : Nat), (binOp .eql 52 (.slice a n c) (.slice none n' c')).run Try.prog w = .ok (.bool a.isNone) w := fun w a n c n' c' => Lib.run_eql_slice_nil w _ _ a n c n' c' Try.underlying52
  cases a with
  | none =>
    have h0 : n = 0 := by
      rcases h.2 with ⟨e, h0⟩ | ⟨g, cap, cur, e, _⟩
      · exact h0
      · simp at e
    subst h0
    clear h hl
    obtain rfl : d = [] := List.eq_nil_of_length_eq_zero hn
    go_enter Try.func37, Try.ntmps37
    go_wp2
    go_ret
    exact ⟨_, rfl, ⟨by simp, .inl ⟨rfl, rfl⟩⟩, Below.refl _ _⟩
  | some ad =>
    obtain ⟨v2, w2, hap, ho, hb⟩ := twinU w (some ad) n c d hn hl h 52
    have HO := hid ho
    have HB := hid hb
    clear ho hb h hn hl
    go_enter Try.func37, Try.ntmps37
    go_wp2_with (at_builtin; refine wpList_append_run rfl _ _ 52 rfl rfl rfl hap ?_)
    go_ret
    exact ⟨v2, rfl, HO.out, HB.out⟩
set_option maxRecDepth 100000 in
set_option maxHeartbeats 1000000 in
theorem Known_any (w : World) (p n : Nat) (S : Nat → Prop) (own : Mac) (ip : Int) (L : List Pe) (h : PeAt w p S own ip n L) :
    Calls Try.prog 21 #[.pointer (some ⟨p, 0, none⟩)] w fun e w' => ∃ v, e = .returned v ∧ w'.ownsRow w.heap.size 40 1 v L.length (u32v (L.map Pe.ip)) ∧ Below w.heap.size w w' := by
  obtain ⟨⟨how, hip, hok, hsp⟩, gm, vi, hP, hM, hR, hsg, hsv⟩ := h
  obtain ⟨a, c, rfl⟩ := owns_slice hR
  have HC := hid (CloneU_any w a L.length c (L.map Pe.ip) (by simp) (by have := hok.len; omega) hR)
  have hc8 : w.cell? ⟨p, 8, none⟩ = some (.slice a L.length c) := cell_of hP rfl
  clear hP hM hR hsv hsg hsp hok how hip
  go_enter Try.func21, Try.ntmps21
  go_wp2_with (go_at_call 37; refine HC.out.mono ?_; rintro e w2 ⟨v2, rfl, ho, hb⟩; obtain ⟨a2, c2, rfl⟩ := owns_slice ho; have HO := hid ho; have HB := hid hb; clear ho hb)
  go_ret
  exact ⟨_, rfl, HO.out, HB.out⟩
def ffM : Mac := ⟨255, 255, 255, 255, 255, 255⟩
theorem ffM_ok : ffM.ok := by intro x hx; simp [ffM, Mac.l] at hx; unfold IsB; omega
theorem mac0_ok : mac0.ok := by intro x hx; simp [mac0, Mac.l] at hx; unfold IsB; omega
/-- The bytes of what is asked. -/
def askL (own : Mac) (ip x : Int) : List Int := frL ffM own 2054 (arpL 1 own ip mac0 x)
theorem askL_len (own : Mac) (ip x : Int) : (askL own ip x).length = 42 := by unfold askL; rw [frL_len, arpL_len]
set_option maxRecDepth 100000 in
set_option maxHeartbeats 1000000 in
theorem Ask_any (w : World) (p n : Nat) (S : Nat → Prop) (own : Mac) (ip : Int) (L : List Pe) (x : Int) (h : PeAt w p S own ip n L) (hx : IsU x) :
    Calls Try.prog 19 #[.pointer (some ⟨p, 0, none⟩), .int .u32 x] w fun e w' => ∃ a c, e = .returned (.slice a 42 c) ∧ By w' (New w) a (askL own ip x) ∧ 42 ≤ c ∧ Below w.heap.size w w' := by
  obtain ⟨⟨how, hip, hok, hsp⟩, gm, vi, hP, hM, hR, hsg, hsv⟩ := h
  obtain ⟨g5, hg5⟩ : ∃ g, w.heap.size = g := ⟨_, rfl⟩
  obtain ⟨W1, hW1⟩ : ∃ W, W = w.alloc (.cells #[.int .u8 0, .int .u8 0, .int .u8 0, .int .u8 0, .int .u8 0, .int .u8 0] 23) := ⟨_, rfl⟩
  have b1 : Below w.heap.size w W1 := by rw [hW1]; exact below_alloc (Below.refl _ _) (Nat.le_refl _) _
  have h15 : W1.heap[g5]? = some (.cells zero6 23 (0, 0)) := by rw [hW1, ← hg5]; exact alloc_new w _
  obtain ⟨W2, hW2⟩ : ∃ W, W = W1.setRow g5 (macC ffM) := ⟨_, rfl⟩
  have h25 : W2.heap[g5]? = some (.cells (macC ffM) 23 (0, 0)) := by rw [hW2]; exact setRow_heap _ _ _ _ _ _ h15
  have hB2 : Below w.heap.size w W2 := by rw [hW2]; exact (setRow_mods _ _ _).to_below b1 b1.size (fun y hy => by rw [hy, hg5]; exact Nat.le_refl _)
  have HSD := hid (said_any W2 p gm vi own ip 1 ffM mac0 x ((hB2.block p (Array.getElem?_eq_some_iff.1 hP).1).trans hP) how hip (by omega) ffM_ok mac0_ok hx)
  have H15 := hid h15
  have H25 := hid h25
  have HB2 := hid hB2
  have HW := hW1.symm
  clear hW1 b1 h15 h25 hB2 hP hM hR hsv hsg hsp hok how hip hx
  go_enter Try.func19, Try.ntmps19
  go_wp2_with (first
    | (refine wpList_store_row rfl 23 _ _ rfl g5 (macC ffM) rfl rfl 23 _ H15.out size6 rfl (macC_one ffM) ?_; rw [← hW2]; clear hW2)
    | (refine wpList_load_row rfl 23 _ rfl g5 rfl 23 _ (0, 0) _ H25.out Try.underlying23 rfl size6 ?_)
    | (go_at_call 34; refine HSD.out.mono ?_; rintro e w3 ⟨a3, c3, rfl, hy3, hc3, hb3⟩; have HY3 := hid hy3; have HC3 := hid hc3; have HB3 := hid (HB2.out.trans (hb3.mono HB2.out.size)); clear hy3 hc3 hb3))
  go_ret
  exact ⟨a3, c3, rfl, HY3.out.weak (fun y hy _ => Nat.le_trans HB2.out.size hy), HC3.out, HB3.out⟩
end Go.Proofs.Ytlflbpemjlgdiaa
