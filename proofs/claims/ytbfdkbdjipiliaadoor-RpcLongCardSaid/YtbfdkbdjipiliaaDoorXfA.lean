/- YgB, XfA in one text. -/
import Derived.Test.YtbfdkbdjipiliaaDoorYgA
import Derived.Test.YtbfdkbdjipiliaaDoorXeA
/- Credentials written; a call written. -/
namespace Go.Proofs.YtbfdkbdjipiliaaDoor
open Go.RowKit Go.Maps
set_option linter.unusedVariables false

theorem run_min3 (ats : Array TypeId) (ty : TypeId) (a b : Int) (W : World) : (Builtin.min_ ats ty #[.int .i64 a, .int .i64 b]).run Tryd.prog W = .ok (.int .i64 (min a b)) W := by
  simp [Builtin.min_, Builtin.min2]
  split <;> omega
theorem U32s.take {w : World} {a : Option Addr} {l : List Int} (h : U32s w a l) (k : Nat) : U32s w a (l.take k) := fun i hi => by
  have h1 : i < l.length := by rw [List.length_take] at hi; omega
  have h2 : i < k := by rw [List.length_take] at hi; omega
  have e : (l.take k).getD i 0 = l.getD i 0 := by simp [List.getD, h1, h2]
  rw [e]
  exact h i h1
theorem U32s.keep {w w' : World} {a : Option Addr} {l : List Int} (h : U32s w a l) (hb : ∀ b o, a = some ⟨b, o, none⟩ → b < w.heap.size → w'.heap[b]? = w.heap[b]?) : U32s w' a l := fun i hi => by
  obtain ⟨b, off, e, hc, hu⟩ := h i hi
  have hlt : b < w.heap.size := World.block_lt_of_cell? w _ hc
  have hk := hb b off e hlt
  exact ⟨b, off, e, by simpa [World.cell?, hk] using hc, hu⟩
theorem U32s.later {w w' : World} {a : Option Addr} {l : List Int} (h : U32s w a l) (hb : Below w.heap.size w w') : U32s w' a l := h.keep (fun b _ _ hlt => hb.block b hlt)
theorem U32s.kp {w w' : World} {S S' : Nat → Prop} {a : Option Addr} {l : List Int} (h : U32s w a l) (hk : Kp S w S' w') (hn : ∀ b o, a = some ⟨b, o, none⟩ → ¬ S b) : U32s w' a l := h.keep (fun b o e hlt => hk.block hlt (hn b o e))
set_option maxRecDepth 100000 in
theorem cut_u32s (a : Option Addr) (n c k : Nat) (h : k ≤ c) (W : World) : (Instr.slice 42 (.slice a n c) none (some (.int .i64 k)) none).run Tryd.prog W = .ok (.slice a k c) W := by
  have hz : (sizeOf 41).run Tryd.prog W = .ok 1 W := by kernel_rfl
  rw [run_slice_h (P := Tryd.prog) W 42 a n c Tryd.underlying42 .i64 k (by omega) (by omega)]
  have e : Tryd.prog.elem 42 = 41 := by kernel_rfl
  rw [e, hz]
  cases a <;> simp [sliced, Addr.add]
set_option maxRecDepth 100000 in
set_option maxHeartbeats 2000000 in
theorem writeUnix_any (w : World) (u g : Int) (hu : IsU u) (hg : IsU g) (a : Option Addr) (n c : Nat) (gs : List Int) (hn : gs.length = n) (hc : n ≤ c) (hgs : U32s w a gs) (hmx : n ≤ maxLen) (m : Nat) (hm : (sysL ⟨u, g, gs⟩).length = m) :
    Calls Tryd.prog 28 #[.agg #[.int .u32 u, .int .u32 g, .slice a n c]] w fun e w' => ∃ a2 c2, e = .returned (.slice a2 m c2) ∧ By w' (New w) a2 (sysL ⟨u, g, gs⟩) ∧ m ≤ c2 ∧ Below w.heap.size w w' := by
  obtain ⟨k, hk⟩ : ∃ k, min 16 n = k := ⟨_, rfl⟩
  have hk16 : k ≤ 16 := by omega
  have hkc : k ≤ c := by omega
  have hlen := sysL_len ⟨u, g, gs⟩
  rw [hm] at hlen
  simp only [hn, hk] at hlen
  have hsys : sysL ⟨u, g, gs⟩ = nuL 4 [0] ++ fuL [] ++ nuL 4 [u, g, (k : Int)] ++ nuL 4 (gs.take k) := by
    have e : fuL ([] : List Int) = bytesBe 4 0 := by decide
    rw [e]
    unfold sysL
    simp only [hn, hk]
    simp
  obtain ⟨SY, hSY⟩ : ∃ x, sysL ⟨u, g, gs⟩ = x := ⟨_, rfl⟩
  rw [hSY] at hm hsys ⊢
  obtain ⟨W1, hW1⟩ : ∃ W, W = w.alloc (.cells #[.int .u32 u, .int .u32 g, .slice a n c] 44) := ⟨_, rfl⟩
  have b1 : Below w.heap.size w W1 := by rw [hW1]; exact below_alloc (Below.refl _ _) (Nat.le_refl _) _
  have z1 : W1.heap[w.heap.size]? = some (.cells #[.int .u32 u, .int .u32 g, .slice a n c] 44 (0, 0)) := by rw [hW1]; exact alloc_new w _
  have c2 := cell_of z1 (i := 2) (v := .slice a n c) rfl
  have qm : ∀ ats ty W, (Builtin.min_ ats ty #[.int .i64 (n : Int), .int .i64 16]).run Tryd.prog W = .ok (.int .i64 (k : Int)) W := fun ats ty W => by
    rw [run_min3]
    have : min (n : Int) 16 = (k : Int) := by omega
    rw [this]
  have qs := cut_u32s a n c k hkc
  have hw32 : IntKind.u32.wrap (k : Int) = k := IntWalk.u32_in _ (by omega)
  have HNW := hid (NewWriter_any W1)
  have HB1 := hid b1
  have HZ1 := hid z1
  have HGS := hid ((hgs.later b1).take k)
  have HGL : Hid ((gs.take k).length = k) := hid (by rw [List.length_take]; omega)
  have HSY := hid hsys
  have HM := hid hm
  have HLM := hid hlen
  have HKU : Hid (IsU (k : Int)) := hid (by unfold IsU; omega)
  have HUG := hid (And.intro hu hg)
  have hlt1 : w.heap.size < W1.heap.size := by rw [hW1]; simp
  have HLT := hid hlt1
  have hW1' := hW1.symm
  clear hn hc hgs hmx hm hk hlen hsys b1 z1 hW1 hSY hu hg hlt1
  generalize gs.take k = gk at *
  go_enter Tryd.func28, Tryd.ntmps28
  go_wp2_with (first
    | (go_at_call 19
       (try rw [hW1'])
       refine HNW.out.mono ?_
       rintro e w2 ⟨rfl, hx2, hb2⟩
       obtain ⟨p, hp⟩ : ∃ p, W1.heap.size = p := ⟨_, rfl⟩
       rw [hp] at hx2 ⊢
       have hS2 : Kp (fun _ => False) W1 (fun b => b = p) w2 := ⟨fun b hb => .inr (by rw [hb, hp]; exact Nat.le_refl _), Mods.of_below hb2⟩
       have HU1 := hid (WU32_new hx2 [0] (by unfold IsU; simp) 1 rfl (by omega) (by simp))
       simp only [List.map_cons, List.map_nil, List.nil_append] at HU1
       have HK2 := hid hS2
       clear hx2 hb2 hS2 hp HNW)
    | (go_at_call 20
       refine HU1.out.mono ?_
       rintro e w3 ⟨rfl, S3, hx3, hk3⟩
       have HY1 := hid (WBytes_new hx3 none 0 0 [] rfl (fun W S2 _ => Bytes.nil_ W none) (by omega) (by simp [len_be]))
       have HK3 := hid (HK2.out.trans hk3)
       clear hx3 hk3 HU1 HK2)
    | (go_at_call 46
       refine HY1.out.mono ?_
       rintro e w4 ⟨rfl, S4, hx4, hk4⟩
       have hk4' := HK3.out.trans hk4
       have y0 := hk4'.cell (cell_of HZ1.out (i := 0) (v := .int .u32 u) rfl) (fun e => e)
       have y1 := hk4'.cell (cell_of HZ1.out (i := 1) (v := .int .u32 g) rfl) (fun e => e)
       have HU2 := hid (WU32_new hx4 [u, g, (k : Int)] (by have := HUG.out; have := HKU.out; intro x hx; simp only [List.mem_cons, List.mem_nil_iff, or_false] at hx; rcases hx with rfl | rfl | rfl; exact this.1; exact HUG.out.2; exact HKU.out) 3 rfl (by omega) (by simp [len_be, fuL_len, pad4]))
       simp only [List.map_cons, List.map_nil] at HU2
       have HK4 := hid hk4'
       clear hx4 hk4 hk4' HK3 HY1)
    | (go_at_call 20
       refine HU2.out.mono ?_
       rintro e w5 ⟨rfl, S5, hx5, hk5⟩
       have hk5' := HK4.out.trans hk5
       have hnS : ∀ W Z, Kp S5 w5 Z W → U32s W a gk := fun W Z hk => HGS.out.kp (hk5'.trans hk) (fun b o _ e => e)
       have HU3 := hid (WU32_any hx5 k c a gk HGL.out (by omega) hnS (by simp [len_be, fuL_len, pad4]; omega))
       rw [← HSY.out] at HU3
       have HK5 := hid hk5'
       clear hx5 hk5 hk5' hnS HK4 HU2)
    | (go_at_call 20
       refine HU3.out.mono ?_
       rintro e w6 ⟨rfl, S6, hx6, hk6⟩
       have HD := hid (Done_any hx6 m HM.out (by have := HLM.out; omega))
       have HK6 := hid (HK5.out.trans hk6)
       clear hx6 hk6 HK5 HU3)
    | (go_at_call 21
       refine HD.out.mono ?_
       rintro e w7 ⟨a7, c7, rfl, hy7, hc7, hb7⟩
       have HY7 := hid hy7
       have HB7 := hid hb7
       clear hy7 hb7 HD))
  go_ret
  have hW6 := HK6.out.2.to_below HB1.out HB1.out.size (fun b hb => hb.elim)
  exact ⟨a7, c7, rfl, HY7.out.weak (fun b hb _ => Nat.le_trans hW6.size hb), hc7, hW6.trans (HB7.out.mono hW6.size)⟩
end Go.Proofs.YtbfdkbdjipiliaaDoor

/- What is done is a row of one's own; bytes and noughts of which one was turned. -/
namespace Go.Proofs.YtbfdkbdjipiliaaDoor
open Go.RowKit Go.Maps
set_option linter.unusedVariables false

/-- 'append([]byte{}, d...)' of some bytes: a row of one's own. -/
theorem twinO (W : World) (a : Option Addr) (n c : Nat) (d : List Int) (hn : d.length = n) (hp : 0 < n) (hl : n ≤ 900000) (h : Bytes W a d) (ty : TypeId) :
    ∃ a2 c2 w2, (Builtin.append_ #[27, 27] ty #[.slice (some ⟨W.heap.size, 0, none⟩) 0 0, .slice a n c]).run Tryd.prog (W.alloc (.cells #[] 5)) = .ok (.slice a2 n c2) w2 ∧ w2.ownsRow W.heap.size 5 1 (.slice a2 n c2) n (u8s d) ∧ Below W.heap.size W w2 := by
  have hb1 : Below W.heap.size W (W.alloc (.cells #[] 5)) := (Below.refl _ _).alloc (Nat.le_refl _) _
  have hg : Gr (W.alloc (.cells #[] 5)) W.heap.size (.slice (some ⟨W.heap.size, 0, none⟩) 0 0) [] := by
    refine ⟨fun x hx => by simp at hx, .inl ⟨by simp, .inr ⟨W.heap.size, 0, #[], rfl, Nat.le_refl _, alloc_new W _, by simp, by simp, by simp, by simp⟩⟩⟩
  obtain ⟨b, off, rfl, hcur⟩ := h.open_ (by omega)
  obtain ⟨a2, c2, w2, hap, hg2, ho2, hb2, _, _⟩ := hg.push (by simp) d h.isB (by omega) ⟨b, off, none⟩ n c hn (fun j u hj => by
    have hj2 : j < d.length := by have := (List.getElem?_eq_some_iff.1 hj).1; simpa using this
    rw [u8s_get hj2] at hj
    rw [add_addr]
    refine cell_later hb1 ?_
    rw [hcur j hj2]
    simpa using hj) (by simp; omega) ty
  simp only [List.length_nil, Nat.zero_add, List.nil_append] at hap hg2 ho2
  exact ⟨a2, c2, w2, hap, ho2, hb1.trans hb2⟩
set_option maxRecDepth 100000 in
set_option maxHeartbeats 1000000 in
theorem Clone_own (w : World) (a : Option Addr) (n c : Nat) (l : List Int) (hn : l.length = n) (hp : 0 < n) (hl : n ≤ 900000) (hb : Bytes w a l) :
    Calls Tryd.prog 25 #[.slice a n c] w fun e w' => ∃ a2 c2, e = .returned (.slice a2 n c2) ∧ w'.ownsRow w.heap.size 5 1 (.slice a2 n c2) n (u8s l) ∧ Below w.heap.size w w' := by
  obtain ⟨a2, c2, w2, hap, ho, hb2⟩ := twinO w a n c l hn hp hl hb 27
  obtain ⟨b0, off0, rfl, _⟩ := hb.open_ (by omega)
  have qT : ∀ (w : World) (a : Option Addr) (n c n' c' : Nat), (binOp .eql 27 (.slice a n c) (.slice none n' c')).run Tryd.prog w = .ok (.bool a.isNone) w := fun w a n c n' c' => Lib.run_eql_slice_nil w _ _ a n c n' c' Tryd.underlying27
  have HO := hid ho
  have HB2 := hid hb2
  clear ho hb2 hb hn
  go_enter Tryd.func25, Tryd.ntmps25
  go_wp2_with (at_builtin; refine wpList_append_run rfl _ _ 27 rfl rfl rfl hap ?_)
  go_ret
  exact ⟨a2, c2, rfl, HO.out, HB2.out⟩
set_option maxRecDepth 100000 in
set_option maxHeartbeats 1000000 in
theorem Done_own {w : World} {p : Nat} {S : Nat → Prop} {l : List Int} (h : WX w 98 p S l) (n : Nat) (hn : l.length = n) (hp : 0 < n) (hl : n ≤ 900000) :
    Calls Tryd.prog 21 #[.pointer (some ⟨p, 0, none⟩)] w fun e w' => ∃ g c2, e = .returned (.slice (some ⟨g, 0, none⟩) n c2) ∧ w'.ownsRow w.heap.size 5 1 (.slice (some ⟨g, 0, none⟩) n c2) n (u8s l) ∧ n ≤ c2 ∧ w.heap.size ≤ g ∧ g < w'.heap.size ∧ Below w.heap.size w w' := by
  obtain ⟨a, c, h1, hb⟩ := h.row
  rw [hn] at h1
  have c0 := cell_of h1 (i := 0) (v := .slice a n c) rfl
  have HC := hid (Clone_own w a n c l hn hp hl hb)
  clear h h1 hb hn
  go_enter Tryd.func21, Tryd.ntmps21
  go_wp2_with (go_at_call 25; refine HC.out.mono ?_; rintro e w2 ⟨a2, c2, rfl, ho, hb2⟩; have HO := hid ho; have HB2 := hid hb2; clear ho hb2)
  go_ret
  obtain ⟨g, cap, e1, h1, _, h2, h3, _, _⟩ := owns_cells HO.out hp
  simp only [Value.slice.injEq, true_and] at e1
  obtain ⟨rfl, rfl⟩ := e1
  exact ⟨g, _, rfl, HO.out, h1, h2, h3, HB2.out⟩
theorem owns_bytes {w : World} {base g n c : Nat} {l : List Int} (h : w.ownsRow base 5 1 (.slice (some ⟨g, 0, none⟩) n c) n (u8s l)) (hl : ∀ x ∈ l, IsB x) : Bytes w (some ⟨g, 0, none⟩) l := by
  obtain ⟨a, c', e, _, _, hb⟩ := By.of_owns (S := fun _ => True) h hl (fun _ _ => trivial)
  simp only [Value.slice.injEq, true_and] at e
  obtain ⟨rfl, _⟩ := e
  exact hb.bytes
theorem cntP_at (S b : List Int) (hb : b.length ≤ 3000) (n : Int) (hn : n = b.length) : cntP (fuL b ++ S) 0 n = ⟨b, 0, 4 + (b.length + pad4 b.length)⟩ := by
  subst hn
  have hq := numQ_at [] (pdL b ++ S) 4 (bytesBe 4 b.length) (len_be _ _) 0 rfl
  rw [be_back_4 _ (by omega) (by omega)] at hq
  unfold cntP
  rw [fuL, List.append_assoc]
  simp only [List.nil_append] at hq
  rw [hq]
  simp only
  rw [if_neg (by omega)]
  exact fixP_at (bytesBe 4 b.length) S b 4 (len_be _ _)
theorem cntP_long (b : List Int) (hb : b.length ≤ 3000) (n : Int) (hn : n < b.length) : cntP (fuL b) 0 n = ⟨[], 5, 0⟩ := by
  have hq := numQ_at [] (pdL b) 4 (bytesBe 4 b.length) (len_be _ _) 0 rfl
  rw [be_back_4 _ (by omega) (by omega)] at hq
  unfold cntP
  rw [fuL]
  simp only [List.nil_append] at hq
  rw [hq]
  simp only
  rw [if_pos hn]
/-- One nought turned. -/
theorem cntP_bad (b : List Int) (hb : b.length ≤ 3000) (n : Int) (hn : n = b.length) (j : Nat) (hj : j < pad4 b.length) (y : Int) (hy : y ≠ 0) : cntP ((fuL b).set (4 + b.length + j) y) 0 n = ⟨[], 15, 4⟩ := by
  subst hn
  have e : (fuL b).set (4 + b.length + j) y = bytesBe 4 b.length ++ (b ++ (List.replicate (pad4 b.length) 0).set j y) := by
    unfold fuL pdL
    rw [List.set_append_right _ _ (by rw [len_be]; omega), List.set_append_right _ _ (by rw [len_be]; omega), len_be, show 4 + b.length + j - 4 - b.length = j by omega]
  rw [e]
  have hq := numQ_at [] (b ++ (List.replicate (pad4 b.length) 0).set j y) 4 (bytesBe 4 b.length) (len_be _ _) 0 rfl
  rw [be_back_4 _ (by omega) (by omega)] at hq
  unfold cntP
  simp only [List.nil_append] at hq
  rw [hq]
  simp only
  rw [if_neg (by omega)]
  unfold fixP
  rw [if_neg (by omega), Int.toNat_natCast, if_neg (by simp [len_be] <;> omega)]
  have e1 : ((bytesBe 4 (b.length : Int) ++ (b ++ (List.replicate (pad4 b.length) (0 : Int)).set j y)).drop (0 + 4 + b.length)).take (pad4 b.length) = (List.replicate (pad4 b.length) (0 : Int)).set j y := by
    rw [← List.append_assoc, List.drop_left' (by rw [List.length_append, len_be]), List.take_of_length_le (by simp)]
  rw [e1, if_neg (by
    intro h
    rw [List.all_eq_true] at h
    have h2 := h y (List.mem_iff_getElem.2 ⟨j, by simpa using hj, by simp⟩)
    exact hy (by simpa using h2))]
theorem fuL_set_isB (b : List Int) (hb : ∀ x ∈ b, IsB x) (j : Nat) (y : Int) (hy : IsB y) : ∀ x ∈ (fuL b).set j y, IsB x := fun x hx => by
  rcases List.mem_or_eq_of_mem_set hx with h | h
  · exact fuL_isB b hb x h
  · rw [h]; exact hy
end Go.Proofs.YtbfdkbdjipiliaaDoor
