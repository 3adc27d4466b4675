/- PureD, RefJ, Steps in one text. -/
import Derived.Test.YtdjghkngiicncaaGreatRefF
import Derived.Test.YtdjghkngiicncaaGreatRefI
import Derived.Deep.RegionHeld
/- The heads that the document's driver tells are those that the program's tells. -/
namespace Go.Proofs.YtdjghkngiicncaaGreat
open Go.RowKit

theorem rising_eq : ∀ (L L' : List Int), L.Pairwise (· < ·) → L'.Pairwise (· < ·) → (∀ k, k ∈ L ↔ k ∈ L') → L = L'
  | [], [], _, _, _ => rfl
  | [], y :: r, _, _, h => by have := (h y).2 (by simp); simp at this
  | x :: r, [], _, _, h => by have := (h x).1 (by simp); simp at this
  | x :: r, y :: s, hL, hL', h => by
    rw [List.pairwise_cons] at hL hL'
    have hxy : x = y := by
      have h1 := (h x).1 (by simp)
      have h2 := (h y).2 (by simp)
      rcases List.mem_cons.1 h1 with e | h1
      · exact e
      · rcases List.mem_cons.1 h2 with e | h2
        · exact e.symm
        · have := hL'.1 x h1
          have := hL.1 y h2
          omega
    subst hxy
    congr 1
    refine rising_eq r s hL.2 hL'.2 (fun k => ⟨fun hk => ?_, fun hk => ?_⟩)
    · rcases List.mem_cons.1 ((h k).1 (List.mem_cons_of_mem _ hk)) with e | h1
      · have := hL.1 k hk; omega
      · exact h1
    · rcases List.mem_cons.1 ((h k).2 (List.mem_cons_of_mem _ hk)) with e | h1
      · have := hL'.1 k hk; omega
      · exact h1

theorem hk_mem (F : List (Nat × Value)) (k : Nat) (x : Int) : x ∈ hk F k F.length ↔ x = k ∧ ∃ p ∈ F, p.1 = k := by
  simp only [hk, List.take_length, List.mem_map, List.mem_filter, beq_iff_eq]
  constructor
  · rintro ⟨p, ⟨h1, h2⟩, rfl⟩
    exact ⟨rfl, p, h1, h2⟩
  · rintro ⟨rfl, p, h1, h2⟩
    exact ⟨p, ⟨h1, h2⟩, rfl⟩
theorem hk_one (F : List (Nat × Value)) (k : Nat) (hn : (F.map (·.1)).Nodup) : (hk F k F.length).length ≤ 1 := by
  unfold hk
  rw [List.length_map, List.take_length]
  induction F with
  | nil => simp
  | cons p F ih =>
    rw [List.map_cons, List.nodup_cons] at hn
    rw [List.filter_cons]
    split
    · rename_i hp
      have : F.filter (fun p => p.1 == k) = [] := by
        rw [List.filter_eq_nil_iff]
        intro r hr e
        simp only [beq_iff_eq] at e hp
        exact hn.1 (List.mem_map.2 ⟨r, hr, by omega⟩)
      rw [this]
      simp
    · exact ih hn.2
theorem hh_mem (F : List (Nat × Value)) (n : Nat) (x : Int) : x ∈ hh F n ↔ ∃ p ∈ F, (p.1 : Int) = x ∧ p.1 < n := by
  induction n with
  | zero => simp [hh]
  | succ n ih =>
    rw [hh, List.mem_append, ih, hk_mem]
    constructor
    · rintro (⟨p, h1, h2, h3⟩ | ⟨rfl, p, h1, h2⟩)
      · exact ⟨p, h1, h2, by omega⟩
      · exact ⟨p, h1, by omega, by omega⟩
    · rintro ⟨p, h1, h2, h3⟩
      by_cases e : p.1 = n
      · exact .inr ⟨by omega, p, h1, e⟩
      · exact .inl ⟨p, h1, h2, by omega⟩
theorem hh_rising (F : List (Nat × Value)) (n : Nat) (hn : (F.map (·.1)).Nodup) : (hh F n).Pairwise (· < ·) := by
  induction n with
  | zero => simp [hh]
  | succ n ih =>
    rw [hh, List.pairwise_append]
    refine ⟨ih, ?_, fun x hx y hy => ?_⟩
    · have := hk_one F n hn
      match h : hk F n F.length with
      | [] => simp
      | [a] => simp
      | a :: b :: r => rw [h] at this; simp at this
    · obtain ⟨p, _, h2, h3⟩ := (hh_mem F n x).1 hx
      obtain ⟨rfl, _⟩ := (hk_mem F n y).1 hy
      omega
theorem look_isSome (fl : List (Nat × List Nat)) (k : Int) : (look fl k).isSome = true ↔ ∃ p ∈ fl, (p.1 : Int) = k := by
  simp only [look, Option.isSome_map, List.find?_isSome, decide_eq_true_eq]
/-- Both sides tell the same heads. -/
theorem heads_same {A : Abs} {L : List Int} (h : Flies A L) (F : List (Nat × Value)) (n : Nat) (he : F.map (·.1) = A.fl.map (·.1)) (hn : (A.fl.map (·.1)).Nodup) (hb : ∀ p ∈ A.fl, p.1 < n) : L = hh F n := by
  refine rising_eq _ _ h.1 (hh_rising F n (he ▸ hn)) (fun k => ?_)
  rw [h.2 k, look_isSome, hh_mem]
  constructor
  · rintro ⟨p, h1, h2⟩
    have h3 : p.1 ∈ F.map (·.1) := by rw [he]; exact List.mem_map.2 ⟨p, h1, rfl⟩
    obtain ⟨r, h4, h5⟩ := List.mem_map.1 h3
    have := hb p h1
    exact ⟨r, h4, by omega, by omega⟩
  · rintro ⟨p, h1, h2, _⟩
    have h3 : p.1 ∈ A.fl.map (·.1) := by rw [← he]; exact List.mem_map.2 ⟨p, h1, rfl⟩
    obtain ⟨r, h4, h5⟩ := List.mem_map.1 h3
    exact ⟨r, h4, by omega⟩

/-- How many are free: as many as the list of the free ones has. -/
theorem cnt_free (t : Nat → Bool) (n : Nat) : cnt t n = ((List.range n).filter (fun i => !t i)).length := by
  induction n with
  | zero => rfl
  | succ n ih =>
    rw [List.range_succ, List.filter_append, List.length_append, ← ih, cnt]
    cases h : t n <;> simp [h]
theorem cnt_same {n : Nat} {A : Abs} (h : Wf n A) (t : Nat → Bool) (ht : ∀ i, i < n → t i = !(A.free.contains i)) : cnt t n = A.free.length := by
  rw [cnt_free]
  have hnd : (A.free ++ A.fl.flatMap (·.2)).Nodup := h.perm.nodup_iff.2 List.nodup_range
  have hf : A.free.Nodup := (List.nodup_append.1 hnd).1
  refine (List.Perm.length_eq ?_)
  rw [List.perm_ext_iff_of_nodup (List.nodup_range.filter _) hf]
  intro i
  rw [List.mem_filter, List.mem_range]
  constructor
  · rintro ⟨h1, h2⟩
    rw [ht i h1] at h2
    simpa using h2
  · intro h1
    have hm : i ∈ List.range n := h.perm.mem_iff.1 (List.mem_append_left _ h1)
    have hi := List.mem_range.1 hm
    exact ⟨hi, by rw [ht i hi]; simpa using h1⟩
end Go.Proofs.YtdjghkngiicncaaGreat

/- The document's driver: Add, what is refused. -/
namespace Go.Proofs.YtdjghkngiicncaaGreat
open Go.RowKit

/-- The free ones below i, rising. -/
def fr (t : Nat → Bool) (i : Nat) : List Nat := (List.range i).filter (fun j => !t j)
theorem fr_succ (t : Nat → Bool) (i : Nat) : fr t (i + 1) = fr t i ++ (if t i then [] else [i]) := by
  unfold fr
  rw [List.range_succ, List.filter_append]
  cases h : t i <;> simp [h]
theorem fr_pre (t : Nat → Bool) (i n : Nat) (h : i ≤ n) : ∃ r, fr t n = fr t i ++ r := by
  obtain ⟨d, rfl⟩ : ∃ d, n = i + d := ⟨n - i, by omega⟩
  induction d with
  | zero => exact ⟨[], by simp⟩
  | succ d ih =>
    obtain ⟨r, hr⟩ := ih (by omega)
    exact ⟨r ++ (if t (i + d) then [] else [i + d]), by rw [← Nat.add_assoc, fr_succ, hr, List.append_assoc]⟩
theorem fr_len (t : Nat → Bool) (i : Nat) : (fr t i).length ≤ i := by
  unfold fr
  exact Nat.le_trans (List.length_filter_le _ _) (by simp)
theorem fr_lt {t : Nat → Bool} {i x : Nat} (h : x ∈ fr t i) : x < i ∧ t x = false := by
  unfold fr at h
  rw [List.mem_filter, List.mem_range] at h
  exact ⟨h.1, by simpa using h.2⟩
theorem fr_cnt (t : Nat → Bool) (n : Nat) : (fr t n).length = cnt t n := (cnt_free t n).symm
theorem fr_take {t : Nat → Bool} {i n m : Nat} (h : i ≤ n) (hm : (fr t i).length = m) : (fr t n).take m = fr t i := by
  obtain ⟨r, hr⟩ := fr_pre t i n h
  rw [hr, ← hm, List.take_left]

theorem okB_get {bufs : List Bf} {m i : Nat} (h : ∀ b ∈ bufs, okB b) (hb : bufs.length = m) (hi : i < m) : okB (bufs.getD i default) := h _ (getD_mem bufs default i (by omega))

set_option maxRecDepth 100000 in
set_option maxHeartbeats 1000000 in
theorem refAdd_none (w : World) (p : Nat) (a : Option Addr) (cap : Nat) :
    Calls Tryz.prog 39 #[.pointer (some ⟨p, 0, none⟩), .slice a 0 cap] w fun e w' => e = .returned (.tuple #[.int .i64 0, .int .i64 1]) ∧ w' = w := by
  go_enter Tryz.func39, Tryz.ntmps39
  go_wp2
  go_ret2
  exact ⟨rfl, rfl⟩

set_option maxRecDepth 100000 in
set_option maxHeartbeats 2000000 in
theorem refAdd_arg (w : World) (p g : Nat) (ab : Option Addr) (m cap : Nat) (bufs : List Bf) (hb : bufs.length = m) (hB : Bufs w ab bufs g) (hm : m ≤ 65536) (h0 : 0 < m) (hbad : anyB bufs = true) :
    Calls Tryz.prog 39 #[.pointer (some ⟨p, 0, none⟩), .slice ab m cap] w fun e w' => e = .returned (.tuple #[.int .i64 0, .int .i64 1]) ∧ w' = w := by
  have HB := hid hB
  have Hb := hid hb
  have HBD := hid hbad
  have g0 : ((m : Int) == 0) = false := by rw [beq_eq_false_iff_ne]; omega
  clear hb hB hbad
  go_enter Tryz.func39, Tryz.ntmps39
  go_wp2
  go_loopw [6] (fun x wx => ∃ i : Nat, i ≤ m ∧ x = .int .i64 i ∧ wx = w ∧ anyB (bufs.take i) = false) (fun x _ => m - (RowKit.intOf x).toNat)
  case atStart => exact ⟨0, Nat.zero_le _, rfl, rfl, by simp [anyB]⟩
  case round =>
    obtain ⟨i, hi, rfl, hww, hany⟩ := hrel
    rw [hww]
    clear hww
    have HAN := hid hany
    clear hany
    by_cases hil : i < m
    · have hii : (i : Int) < m := by omega
      have hi0 : (0 : Int) ≤ (i : Int) := by omega
      have ei : IntKind.i64.wrap ((i : Int) + 1) = (i : Int) + 1 := IntWalk.i64_in _ (by omega)
      obtain ⟨bb, ob, hab, hbg, c0, c1, c2⟩ := HB.out i (by rw [Hb.out]; exact hil)
      have HSN := hid (anyB_snoc bufs i (by rw [Hb.out]; exact hil))
      subst hab
      generalize bufs.getD i default = bf at *
      obtain ⟨baddr, blen, bwt⟩ := bf
      simp only at c0 c1 c2
      by_cases k1 : baddr < 0
      · go_wp2
        go_ret2
        exact ⟨rfl, rfl⟩
      · by_cases k2 : blen < 0
        · go_wp2
          go_ret2
          exact ⟨rfl, rfl⟩
        · by_cases k3 : (4294967296 : Int) ≤ blen
          · go_wp2
            go_ret2
            exact ⟨rfl, rfl⟩
          · go_wp2
            go_roundw
            case rel =>
              refine ⟨i + 1, by omega, by go_num, trivial, ?_⟩
              rw [HSN.out, HAN.out]
              simp [badB, lenB]
              omega
            case measure => simp only [RowKit.intOf]; omega
    · exfalso
      obtain rfl : i = m := by omega
      have h1 := HAN.out
      rw [List.take_of_length_le (by rw [Hb.out]; exact Nat.le_refl _), HBD.out] at h1
      cases h1

set_option maxRecDepth 100000 in
set_option maxHeartbeats 2000000 in
theorem refAdd_full (w : World) (p gt : Nat) (vf : Value) (g len cap base n put got : Nat) (t : Nat → Bool) (ab : Option Addr) (m capb : Nat) (bufs : List Bf) (hd : RBox w p gt vf g len cap base n put got) (ht : Tk w gt n t) (n2 : n ≤ 256)
    (hb : bufs.length = m) (hB : Bufs w ab bufs g) (hm : m ≤ 65536) (h0 : 0 < m) (hok : ∀ b ∈ bufs, okB b) (hf : (fr t n).length < m) :
    Calls Tryz.prog 39 #[.pointer (some ⟨p, 0, none⟩), .slice ab m capb] w fun e w' => e = .returned (.tuple #[.int .i64 0, .int .i64 7]) ∧ w' = w := by
  have HB := hid hB
  have Hb := hid hb
  have HOK := hid hok
  have hfree := refFree_any w p gt vf g len cap base n put got t hd ht n2
  rw [← fr_cnt] at hfree
  have HFR := hid hfree
  have g0 : ((m : Int) == 0) = false := by rw [beq_eq_false_iff_ne]; omega
  have g1 : ((fr t n).length : Int) < (m : Int) := by omega
  generalize (fr t n).length = fn at *
  clear hb hB hok hfree hd ht hf
  go_enter Tryz.func39, Tryz.ntmps39
  go_wp2
  go_loopw [6] (fun x wx => ∃ i : Nat, i ≤ m ∧ x = .int .i64 i ∧ wx = w) (fun x _ => m - (RowKit.intOf x).toNat)
  case atStart => exact ⟨0, Nat.zero_le _, rfl, rfl⟩
  case round =>
    obtain ⟨i, hi, rfl, hww⟩ := hrel
    rw [hww]
    clear hww
    by_cases hil : i < m
    · have hii : (i : Int) < m := by omega
      have hi0 : (0 : Int) ≤ (i : Int) := by omega
      have ei : IntKind.i64.wrap ((i : Int) + 1) = (i : Int) + 1 := IntWalk.i64_in _ (by omega)
      obtain ⟨bb, ob, hab, hbg, c0, c1, c2⟩ := HB.out i (by rw [Hb.out]; exact hil)
      have hbok := okB_get HOK.out Hb.out hil
      subst hab
      generalize bufs.getD i default = bf at *
      obtain ⟨baddr, blen, bwt⟩ := bf
      obtain ⟨k1, k1', k2, k3⟩ := hbok
      simp only at c0 c1 c2 k1 k1' k2 k3
      have q1 : ¬ (baddr < 0) := by omega
      have q2 : ¬ (blen < 0) := by omega
      have q3 : ¬ ((4294967296 : Int) ≤ blen) := by omega
      clear k1 k1' k2 k3
      go_wp2
      go_roundw
      case rel => exact ⟨i + 1, by omega, by go_num, trivial⟩
      case measure => simp only [RowKit.intOf]; omega
    · have hii : ¬ ((i : Int) < m) := by omega
      go_wp2_with (go_at_call 61; refine HFR.out.mono ?_; rintro e w5 ⟨rfl, hw5⟩; rw [hw5]; clear hw5 w5)
      go_ret2
      exact ⟨rfl, rfl⟩
end Go.Proofs.YtdjghkngiicncaaGreat

/- One operation of a region that draws its order: it yields a value; it calls; it stores into a map. -/
namespace Go.Proofs.YtdjghkngiicncaaGreat
open Go.RowKit Go.Shelf

section
variable {P : Program} {ops : Array Oper} {Q : Exit → Act → World → Prop} {i : Nat} {o : Oper} {a : Act} {w : World} {K : Act → World → Prop}

theorem op_value (ho : ops[i]? = some o) (hg : Region.wanted o (yielded ops a.tmps) = true) {v : Value} {w' : World} (hrun : (execOp a.eval o).run P w = .ok (.value v) w') (h : K (a.put o.dst v) w') : wpOp P ops Q i K a w := by
  unfold wpOp
  simp only [ho]
  rw [if_pos hg]
  left
  unfold Oper.wp
  rw [hrun]
  exact h
theorem op_skip (ho : ops[i]? = some o) (hg : Region.wanted o (yielded ops a.tmps) = true) {w' : World} (hrun : (execOp a.eval o).run P w = .ok .skip w') (h : K (a.put o.dst undef) w') : wpOp P ops Q i K a w := by
  unfold wpOp
  simp only [ho]
  rw [if_pos hg]
  left
  unfold Oper.wp
  rw [hrun]
  exact h
theorem op_call (ho : ops[i]? = some o) (hg : Region.wanted o (yielded ops a.tmps) = true) {f : FuncId} {args : Array Value} (val : Nat → Nat → Value) {R : Nat → Nat → World → Prop} (hrun : (execOp a.eval o).run P w = .ok (.enter f args) w) (hc : Calls P f args w fun e w' => ∃ x y, e = .returned (val x y) ∧ R x y w')
    (h : ∀ x y w', R x y w' → K (a.put o.dst (val x y)) w') : wpOp P ops Q i K a w := by
  unfold wpOp
  simp only [ho]
  rw [if_pos hg]
  left
  unfold Oper.wp
  rw [hrun]
  refine hc.mono fun e w' hr => ?_
  obtain ⟨x, y, rfl, hk⟩ := hr
  exact h x y w' hk
theorem op_append (ho : ops[i]? = some o) (hg : Region.wanted o (yielded ops a.tmps) = true) (s x : Operand) (t : TypeId) (hop : o.op = .call { callee := .builtin .append, args := #[s, x], argTypes := #[t, t] }) {v y v' : Value} {w' : World} (hs : a.eval s = v) (hx : a.eval x = y) (ty : TypeId) (hty : o.type = ty)
    (hrun : (Builtin.append_ #[t, t] ty #[v, y]).run P w = .ok v' w') (h : K (a.put o.dst v') w') : wpOp P ops Q i K a w := by
  subst hty
  refine op_value ho hg (v := v') (w' := w') ?_ h
  unfold execOp
  simp only [hop, resolve, invoke, builtin, Sem.run_bind, Sem.run_pure, Result.andThen_ok, List.map_toArray, List.map_cons, List.map_nil, hs, hx, hrun]
theorem op_update (ho : ops[i]? = some o) (hg : Region.wanted o (yielded ops a.tmps) = true) (m x v : Operand) (t : TypeId) (hop : o.op = .mapUpdate t m x v) {vm vx vv : Value} {w' : World} (hm : a.eval m = vm) (hx : a.eval x = vx) (hv : a.eval v = vv)
    (hrun : (Instr.mapUpdate t vm vx vv).run P w = .ok () w') (h : K (a.put o.dst undef) w') : wpOp P ops Q i K a w := by
  unfold wpOp
  simp only [ho]
  rw [if_pos hg]
  left
  unfold Oper.wp
  simp [execOp, hop, hm, hx, hv, hrun, Result.andThen]
  exact h
end

theorem any_one {P : Program} {md : Region.Mode} {ops : Array Oper} {Q : Exit → Act → World → Prop} {S : World → Prop} {fuel : Nat} {listed : Array Bool} {a : Act} {w : World} (i : Nat) (hr : Region.ready md ops listed = [i])
    (h : wpOp P ops Q i (fun a' w' => S w' ∧ wpAnyH P md ops Q S fuel (listed.setIfInBounds i true) a' w') a w) : wpAnyH P md ops Q S (fuel + 1) listed a w :=
  wpAnyH_all hr (by simp) (fun j hj => by simp at hj; subst hj; exact h)
theorem any_two {P : Program} {md : Region.Mode} {ops : Array Oper} {Q : Exit → Act → World → Prop} {S : World → Prop} {fuel : Nat} {listed : Array Bool} {a : Act} {w : World} (i j : Nat) (hr : Region.ready md ops listed = [i, j])
    (h : wpOp P ops Q i (fun a' w' => S w' ∧ wpAnyH P md ops Q S fuel (listed.setIfInBounds i true) a' w') a w) (h' : wpOp P ops Q j (fun a' w' => S w' ∧ wpAnyH P md ops Q S fuel (listed.setIfInBounds j true) a' w') a w) : wpAnyH P md ops Q S (fuel + 1) listed a w :=
  wpAnyH_all hr (by simp) (fun k hk => by simp at hk; rcases hk with rfl | rfl; exact h; exact h')

theorem put_some {o : Oper} {dd : Nat} (hd : o.dst = some dd) (a : Act) (v : Value) : a.put o.dst v = { a with tmps := a.tmps.setIfInBounds dd v } := by rw [hd]; rfl
theorem put_none {o : Oper} (hd : o.dst = none) (a : Act) (v : Value) : a.put o.dst v = a := by rw [hd]; rfl
theorem any_take {P : Program} {md : Region.Mode} {ops : Array Oper} {Q : Exit → Act → World → Prop} {S : World → Prop} {fuel : Nat} {listed : Array Bool} {a : Act} {w : World} (i dd : Nat) (v : Value) {oi : Oper} (hi : ops[i]? = some oi) (hd : oi.dst = some dd)
    (hs : Region.noSelect ops = true) (hf : Region.free md ops listed i = true) (hr : (Region.ready md ops listed).contains i = true)
    (hQ : ∀ c a w, Q (.panic c) (a.put oi.dst v) w → Q (.panic c) a w) (hy : YieldsIf P ops S oi v a) (hS : S w)
    (h : wpAnyH P md ops Q S fuel (listed.setIfInBounds i true) { a with tmps := a.tmps.setIfInBounds dd v } w) : wpAnyH P md ops Q S (fuel + 1) listed a w :=
  wpAnyH_take hi hs hf hr hQ hy hS (by rw [put_some hd]; exact h)
section
variable {P : Program} {ops : Array Oper} {Q : Exit → Act → World → Prop} {i : Nat} {o : Oper} {a : Act} {w : World} {K : Act → World → Prop}
theorem op_value' (dd : Nat) (ho : ops[i]? = some o) (hg : Region.wanted o (yielded ops a.tmps) = true) (hd : o.dst = some dd) {v : Value} {w' : World} (hrun : (execOp a.eval o).run P w = .ok (.value v) w') (h : K { a with tmps := a.tmps.setIfInBounds dd v } w') : wpOp P ops Q i K a w :=
  op_value ho hg hrun (by rw [put_some hd]; exact h)
theorem op_call' (dd : Nat) (ho : ops[i]? = some o) (hg : Region.wanted o (yielded ops a.tmps) = true) (hd : o.dst = some dd) {f : FuncId} {args : Array Value} (val : Nat → Nat → Value) {R : Nat → Nat → World → Prop} (hrun : (execOp a.eval o).run P w = .ok (.enter f args) w) (hc : Calls P f args w fun e w' => ∃ x y, e = .returned (val x y) ∧ R x y w')
    (h : ∀ x y w', R x y w' → K { a with tmps := a.tmps.setIfInBounds dd (val x y) } w') : wpOp P ops Q i K a w :=
  op_call ho hg val hrun hc (fun x y w' hr => by rw [put_some hd]; exact h x y w' hr)
theorem op_append' (dd : Nat) (ho : ops[i]? = some o) (hg : Region.wanted o (yielded ops a.tmps) = true) (hd : o.dst = some dd) (s x : Operand) (t : TypeId) (hop : o.op = .call { callee := .builtin .append, args := #[s, x], argTypes := #[t, t] }) {v y v' : Value} {w' : World} (hs : a.eval s = v) (hx : a.eval x = y) (ty : TypeId) (hty : o.type = ty)
    (hrun : (Builtin.append_ #[t, t] ty #[v, y]).run P w = .ok v' w') (h : K { a with tmps := a.tmps.setIfInBounds dd v' } w') : wpOp P ops Q i K a w :=
  op_append ho hg s x t hop hs hx ty hty hrun (by rw [put_some hd]; exact h)
theorem op_update' (ho : ops[i]? = some o) (hg : Region.wanted o (yielded ops a.tmps) = true) (hd : o.dst = none) (m x v : Operand) (t : TypeId) (hop : o.op = .mapUpdate t m x v) {vm vx vv : Value} {w' : World} (hm : a.eval m = vm) (hx : a.eval x = vx) (hv : a.eval v = vv)
    (hrun : (Instr.mapUpdate t vm vx vv).run P w = .ok () w') (h : K a w') : wpOp P ops Q i K a w :=
  op_update ho hg m x v t hop hm hx hv hrun (by rw [put_none hd]; exact h)
end

end Go.Proofs.YtdjghkngiicncaaGreat
