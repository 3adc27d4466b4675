/- VdA, VeA in one text. -/
import Derived.Test.YtaplmlldmhdhoaaGreatDoorVcB
import Derived.Test.YtaplmlldmhdhoaaGreatDoorVdS
import Derived.Test.YtaplmlldmhdhoaaGreatDoorVbB
import Derived.LaidEql
import Derived.Stop.Asserts
/- A base of blocks: what is laid into it. -/
namespace Go.Proofs.YtaplmlldmhdhoaaGreatDoor
open Go.RowKit Go.Maps
set_option linter.unusedVariables false

/-- What a list of blocks lays at a number: the last one. -/
def laidOn (o : Option (List Int)) (L : List Pt) (k : Int) : Option (List Int) := L.foldl (fun o p => if p.blk = k then some p.dat else o) o
def laid (L : List Pt) (k : Int) : Option (List Int) := laidOn none L k
theorem laidOn_app (o : Option (List Int)) (L M : List Pt) (k : Int) : laidOn o (L ++ M) k = laidOn (laidOn o L k) M k := by simp [laidOn, List.foldl_append]
theorem laidOn_keep (o : Option (List Int)) (M : List Pt) (k : Int) (h : ∀ p ∈ M, p.blk ≠ k) : laidOn o M k = o := by
  induction M generalizing o with
  | nil => rfl
  | cons p M ih =>
    show laidOn (if p.blk = k then some p.dat else o) M k = o
    rw [if_neg (h p (by simp)), ih _ (fun q hq => h q (by simp [hq]))]
theorem laid_snoc (L : List Pt) (p : Pt) (k : Int) : laid (L ++ [p]) k = if p.blk = k then some p.dat else laid L k := by
  unfold laid; rw [laidOn_app]; rfl
theorem laid_take (L : List Pt) (j : Nat) (h : j < L.length) (k : Int) : laid (L.take (j + 1)) k = if (L.getD j default).blk = k then some (L.getD j default).dat else laid (L.take j) k := by
  have e : L.take (j + 1) = L.take j ++ [L.getD j default] := by
    rw [List.take_add_one]
    simp [List.getD, h]
  rw [e, laid_snoc]
def zeros512 : List Int := List.replicate 512 0
theorem zeros_len : zeros512.length = 512 := List.length_replicate
theorem zeros_isB : ∀ x ∈ zeros512, IsB x := rep_isB 512
def cont (L : List Pt) (k : Nat) : List Int := (laid L k).getD zeros512
theorem bmRows_blk (b d : Int) : ∀ (r : Nat), ∀ p ∈ bmRows b d r, 69 ≤ p.blk ∧ p.blk < 69 + (r : Int) ∧ p.dat.length = 512
  | 0, p, hp => by simp [bmRows] at hp
  | r + 1, p, hp => by
    simp only [bmRows, List.mem_append] at hp
    rcases hp with h | h
    · have := bmRows_blk b d r p h; omega
    · split at h
      · simp only [List.mem_singleton] at h; subst h; exact ⟨by show (69 : Int) ≤ 69 + r; omega, by show (69 : Int) + r < _; omega, by dsimp only; exact bitB_len _⟩
      · simp at h
theorem bm_none {P : Nat → Bool} (h : (List.range 4096).any P = false) : bitB P = zeros512 := by
  rw [← show bitB (fun _ => false) = zeros512 from bitB_none]
  refine bitB_congr fun i hi => ?_
  rw [List.any_eq_false] at h
  simpa using h i (List.mem_range.2 hi)
theorem bmRows_at (b d : Int) (R r : Nat) (h : r < R) (o : Option (List Int)) (ho : o.getD zeros512 = zeros512) : (laidOn o (bmRows b d R) (69 + (r : Int))).getD zeros512 = bitB (bmB b d r) := by
  induction R with
  | zero => omega
  | succ R ih =>
    simp only [bmRows]
    rw [laidOn_app]
    by_cases e : r = R
    · subst e
      rw [laidOn_keep o _ _ (fun p hp => by have := bmRows_blk b d r p hp; omega)]
      cases hA : (List.range 4096).any (bmB b d r)
      · rw [bm_none hA]
        exact ho
      · simp [laidOn]
    · rw [laidOn_keep _ _ _ (fun p hp => by
        split at hp
        · simp only [List.mem_singleton] at hp; subst hp; show (69 : Int) + R ≠ 69 + r; omega
        · simp at hp)]
      exact ih (by omega)
theorem planT_eq (b : Int) (h : 128 ≤ b) : planT b = 69 + (((b + 4095) / 4096).toNat : Int) := by unfold planT; omega
theorem mk_tail {b i s ns k : Int} (hp : PlanOk b i) (hk : k < planT b) : ∀ p ∈ ([⟨planT b, nodeL (planD b i) s ns⟩, ⟨planD b i, linesL⟩] : List Pt), p.blk ≠ k := by
  have := hp.i0
  intro p h
  simp only [List.mem_cons, List.not_mem_nil, or_false] at h
  rcases h with rfl | rfl
  · show planT b ≠ k; omega
  · show planD b i ≠ k; unfold planD; omega
theorem cont_0 {b i s ns : Int} (hp : PlanOk b i) : cont (mkfsL b i s ns) 0 = encL b i := by
  have hb := hp.b0
  unfold cont laid mkfsL
  rw [laidOn_app, laidOn_keep _ _ _ (mk_tail hp (by rw [planT_eq b hb]; omega)), laidOn_app, laidOn_keep _ _ _ (fun p h => by have := bmRows_blk _ _ _ p h; omega)]
  simp [laidOn]
theorem cont_68 {b i s ns : Int} (hp : PlanOk b i) : cont (mkfsL b i s ns) 68 = bitB (imB i) := by
  have hb := hp.b0
  unfold cont laid mkfsL
  rw [laidOn_app, laidOn_keep _ _ _ (mk_tail hp (by rw [planT_eq b hb]; omega)), laidOn_app, laidOn_keep _ _ _ (fun p h => by have := bmRows_blk _ _ _ p h; omega)]
  simp [laidOn]
theorem cont_bm {b i s ns : Int} (hp : PlanOk b i) {r : Nat} (hr : r < ((b + 4095) / 4096).toNat) : cont (mkfsL b i s ns) (69 + r) = bitB (bmB b (planD b i) r) := by
  have hb := hp.b0
  unfold cont laid mkfsL
  have e : ((69 + r : Nat) : Int) = 69 + (r : Int) := by omega
  rw [e, laidOn_app, laidOn_keep _ _ _ (mk_tail hp (by rw [planT_eq b hb]; omega)), laidOn_app]
  refine bmRows_at _ _ _ _ hr _ ?_
  have : laidOn none [⟨0, encL b i⟩, ⟨68, bitB (imB i)⟩] (69 + (r : Int)) = none := laidOn_keep _ _ _ (fun p h => by
    simp only [List.mem_cons, List.not_mem_nil, or_false] at h
    rcases h with rfl | rfl
    · show (0 : Int) ≠ _; omega
    · show (68 : Int) ≠ _; omega)
  rw [this]
  rfl
theorem mk_all {b i s ns : Int} (hp : PlanOk b i) : ∀ p ∈ mkfsL b i s ns, 0 ≤ p.blk ∧ p.blk < b ∧ p.dat.length = 512 := by
  have h1 := hp.d
  have hb := hp.b0
  have hi := hp.i0
  have hT := planT_eq b hb
  have hD : planD b i = planT b + i / 4 := rfl
  intro p h
  unfold mkfsL at h
  simp only [List.mem_append, List.mem_cons, List.not_mem_nil, or_false] at h
  rcases h with ((rfl | rfl) | h) | (rfl | rfl)
  · exact ⟨Int.le_refl _, by show (0 : Int) < b; omega, by dsimp only; exact encL_len _ _⟩
  · exact ⟨by show (0 : Int) ≤ 68; omega, by show (68 : Int) < b; omega, by dsimp only; exact bitB_len _⟩
  · have := bmRows_blk _ _ _ p h; omega
  · exact ⟨by show 0 ≤ planT b; omega, by show planT b < b; omega, by dsimp only; exact nodeL_len _ _ _⟩
  · exact ⟨by show 0 ≤ planD b i; omega, by show planD b i < b; omega, by dsimp only; exact linesL_len⟩
theorem laid_len {L : List Pt} (h : ∀ p ∈ L, p.dat.length = 512) (k : Int) (d : List Int) (e : laid L k = some d) : d.length = 512 := by
  have : ∀ (L : List Pt) (o : Option (List Int)), (∀ p ∈ L, p.dat.length = 512) → (∀ d, o = some d → d.length = 512) → ∀ d, laidOn o L k = some d → d.length = 512 := by
    intro L
    induction L with
    | nil => intro o _ ho d hd; exact ho d hd
    | cons p L ih =>
      intro o hL ho d hd
      refine ih _ (fun q hq => hL q (by simp [hq])) (fun d' hd' => ?_) d hd
      dsimp only at hd'
      split at hd'
      · simp only [Option.some.injEq] at hd'; subst hd'; exact hL p (by simp)
      · exact ho d' hd'
  exact this L none h (by simp) d e
theorem cont_len {L : List Pt} (h : ∀ p ∈ L, p.dat.length = 512) (k : Nat) : (cont L k).length = 512 := by
  unfold cont
  cases e : laid L k with
  | none => exact zeros_len
  | some d => exact laid_len h _ d e
end Go.Proofs.YtaplmlldmhdhoaaGreatDoor

/- Bits of a row: asked, turned, the lowest that is free. -/
namespace Go.Proofs.YtaplmlldmhdhoaaGreatDoor
open Go.RowKit Go.Maps Go.Stop Go.Extern
set_option linter.unusedVariables false

theorem By.at_ {w : World} {S : Nat → Prop} {a : Option Addr} {l : List Int} (h : By w S a l) (h0 : 0 < l.length) : ∃ gb go, a = some ⟨gb, go, none⟩ ∧ gb < w.heap.size ∧ ∀ i, i < l.length → w.cell? ⟨gb, go + i, none⟩ = some (.int .u8 (l.getD i 0)) := by
  obtain ⟨b, off, cur, fr, rfl, _, hh, hcur⟩ := h.2 h0
  exact ⟨b, off, rfl, (Array.getElem?_eq_some_iff.1 hh).1, fun i hi => by simp [World.cell?, hh, hcur i hi]⟩
theorem and1_by (x : Int) (h0 : 0 ≤ x) (h1 : x < 256) : bits .and .u8 x 1 = x % 2 := by
  have := and1_u8 ⟨x.toNat, by omega⟩
  simpa [Int.toNat_of_nonneg h0] using this
theorem by8_shift_bd (f : Nat → Bool) (k j : Nat) : 0 ≤ by8 f k / 2 ^ j ∧ by8 f k / 2 ^ j < 256 := by
  have h := by8_bd f k
  have hp : (0 : Int) < 2 ^ j := Int.pow_pos (by decide)
  refine ⟨Int.ediv_nonneg h.1 (Int.le_of_lt hp), ?_⟩
  have : by8 f k / 2 ^ j ≤ by8 f k := Int.ediv_le_self _ h.1
  omega
set_option maxRecDepth 100000 in
set_option maxHeartbeats 1000000 in
theorem isTaken_any (w : World) (S : Nat → Prop) (a : Option Addr) (c : Nat) (f : Nat → Bool) (h : By w S a (bitB f)) (i : Nat) (hi : i < 4096) :
    Calls Tryz.prog 125 #[.slice a 512 c, n64 i] w fun e w' => e = .returned (.bool (f i)) ∧ w' = w := by
  obtain ⟨gb, go, rfl, _, hcell⟩ := h.at_ (by rw [bitB_len]; decide)
  have hk : i / 8 < 512 := by omega
  have hc := hcell (i / 8) (by rw [bitB_len]; exact hk)
  rw [bitB_get f hk] at hc
  have hb := by8_shift_bd f (i / 8) (i % 8)
  have ha := and1_by _ hb.1 hb.2
  rw [bitB_at f i] at ha
  obtain ⟨x, hx⟩ : ∃ x, x = by8 f (i / 8) := ⟨_, rfl⟩
  rw [← hx] at hc ha
  clear hcell h hb hx
  cases hf : f i
  · rw [hf] at ha
    have ha' : bits .and .u8 (x / 2 ^ (i % 8)) 1 = 0 := ha
    clear ha
    go_enter Tryz.func125, Tryz.ntmps125
    go_wp2
    go_ret
    exact ⟨rfl, rfl⟩
  · rw [hf] at ha
    have ha' : bits .and .u8 (x / 2 ^ (i % 8)) 1 = 1 := ha
    clear ha
    go_enter Tryz.func125, Tryz.ntmps125
    go_wp2
    go_ret
    exact ⟨rfl, rfl⟩
set_option maxRecDepth 100000 in
set_option maxHeartbeats 1000000 in
theorem turned_any (w : World) (S : Nat → Prop) (a : Option Addr) (c : Nat) (f : Nat → Bool) (h : By w S a (bitB f)) (i : Nat) (hi : i < 4096) :
    Calls Tryz.prog 113 #[.slice a 512 c, n64 i] w fun e w' => ∃ a' c', e = .returned (.slice a' 512 c') ∧ w'.ownsRow w.heap.size 5 1 (.slice a' 512 c') 512 (u8s (bitB (flip1 f i))) ∧ Below w.heap.size w w' := by
  have HC := hid (Clone_any w S a 512 c (bitB f) (bitB_len f) (by decide) (by decide) h)
  have hk : i / 8 < 512 := by omega
  have HEP : Hid ((2 : Int) ^ (i % 8) % 256 = 2 ^ (i % 8)) := hid (by
    rcases fin8 (Nat.mod_lt i (show 0 < 8 by decide)) with e | e | e | e | e | e | e | e <;> rw [e] <;> decide)
  have HFL := hid (bitB_flip f i hi)
  clear h
  go_enter Tryz.func113, Tryz.ntmps113
  go_wp2_with fail
  refine HC.out.mono ?_
  rintro e w1 ⟨a1, c1, rfl, _, hy1, hb1, ho1⟩
  obtain ⟨g, cap, e1, hcc, _, hg0, _, hcell, hfr⟩ := owns_cells ho1 (by decide)
  simp only [Value.slice.injEq, true_and] at e1
  obtain ⟨rfl, rfl⟩ := e1
  have hc : w1.cell? ⟨g, i / 8, none⟩ = some (.int .u8 (by8 f (i / 8))) := hcell _ _ (by rw [u8s_get (by rw [bitB_len]; exact hk), bitB_get f hk])
  have hf := hfr (i / 8)
  have HO1 := hid ho1
  have HB1 := hid hb1
  have HG0 := hid hg0
  have hcap : (512 : Int) ≤ (c1 : Int) := by omega
  clear hy1 hb1 ho1 hcell hfr hg0
  go_wp2
  go_region
  all_goals
    go_wp2
    go_ret
    have h2 := owns_set HO1.out (g := g) rfl (i / 8) (.int .u8 (bits .xor .u8 (by8 f (i / 8)) (2 ^ (i % 8) % 256)))
    refine ⟨_, _, rfl, ?_, (HB1.out.setCell HG0.out _).drew⟩
    rw [HEP.out] at h2 ⊢
    have e : (u8s (bitB f)).set (i / 8) (.int .u8 (bits .xor .u8 (by8 f (i / 8)) (2 ^ (i % 8)))) = u8s (bitB (flip1 f i)) := by rw [← HFL.out]; simp
    rw [e] at h2
    exact h2
theorem or7' : ∀ a b : Fin 64, bits .or .i64 ((64 * a.val + b.val : Nat) : Int) 7 = (((64 * a.val + b.val) / 8 * 8 + 7 : Nat) : Int) := by decide +kernel
theorem or7 (k : Fin 4096) : bits .or .i64 (k.val : Int) 7 = ((k.val / 8 * 8 + 7 : Nat) : Int) := by
  have h := or7' ⟨k.val / 64, by have := k.isLt; omega⟩ ⟨k.val % 64, by omega⟩
  simp only [Nat.div_add_mod] at h
  exact h
set_option maxRecDepth 100000 in
set_option maxHeartbeats 1000000 in
theorem lowestFree_any (w : World) (S : Nat → Prop) (a : Option Addr) (c : Nat) (f : Nat → Bool) (h : By w S a (bitB f)) (lo hi : Nat) (hh : hi ≤ 4096) :
    Calls Tryz.prog 112 #[.slice a 512 c, n64 lo, n64 hi] w fun e w' => ((∃ x : Nat, lo ≤ x ∧ x < hi ∧ f x = false ∧ (∀ j, lo ≤ j → j < x → f j = true) ∧ e = .returned (.tuple #[n64 x, .nilIface])) ∨ ((∀ j, lo ≤ j → j < hi → f j = true) ∧ e = .returned (.tuple #[n64 0, .iface 57 (n64 7)]))) ∧ w' = w := by
  obtain ⟨gb, go, rfl, _, hcell⟩ := h.at_ (by rw [bitB_len]; decide)
  have HCL : Hid (∀ k, k < 4096 → w.cell? ⟨gb, go + k / 8, none⟩ = some (.int .u8 (by8 f (k / 8)))) := hid (fun k hk => by
    rw [hcell (k / 8) (by rw [bitB_len]; omega), bitB_get f (by omega)])
  have HIT := hid (fun (k : Nat) (hk : k < 4096) => isTaken_any w S (some ⟨gb, go, none⟩) c f h k hk)
  clear hcell h
  go_enter Tryz.func112, Tryz.ntmps112
  go_wp2
  go_loopw [8] (fun z wr => wr = w ∧ ∃ k : Nat, lo ≤ k ∧ k ≤ 4096 + lo ∧ z = n64 k ∧ ∀ j, lo ≤ j → j < k → j < hi → f j = true) (fun z _ => 4096 + lo - (RowKit.intOf z).toNat)
  case atStart => exact ⟨rfl, lo, Nat.le_refl _, by omega, rfl, fun j h1 h2 => by omega⟩
  case round =>
    obtain ⟨rfl, k, hk0, hk1, rfl, hall⟩ := hrel
    have HALL := hid hall
    clear hall
    by_cases hlt : k < hi
    · have hlt' : (k : Int) < hi := by omega
      have hc := HCL.out k (by omega)
      have ed : ((k : Int) / 8).toNat = k / 8 := by omega
      by_cases hfull : by8 f (k / 8) = 255
      · have ho : bits .or .i64 (k : Int) 7 = ((k / 8 * 8 + 7 : Nat) : Int) := or7 ⟨k, by omega⟩
        have HF := hid ((by8_full f (k / 8)).1 hfull)
        rw [hfull] at hc
        clear hfull
        have hw : IntKind.i64.wrap (((k / 8 * 8 + 7 : Nat) : Int) + 1) = ((k / 8 * 8 + 8 : Nat) : Int) := by rw [IntWalk.i64_in _ (by omega)]; omega
        go_wp2
        go_roundw
        case rel => exact ⟨trivial, k / 8 * 8 + 8, by omega, by omega, by first | rfl | go_num, fun j h1 h2 h3 => by
          by_cases h4 : j < k
          · exact HALL.out j h1 h4 h3
          · have := HF.out (j - 8 * (k / 8)) (by omega)
            rwa [show 8 * (k / 8) + (j - 8 * (k / 8)) = j by omega] at this⟩
        case measure => simp [RowKit.intOf]; omega
      · have HC := hid (HIT.out k (by omega))
        have hne : (by8 f (k / 8) == 255) = false := by simpa using hfull
        obtain ⟨x, hx⟩ : ∃ x, x = by8 f (k / 8) := ⟨_, rfl⟩
        rw [← hx] at hc hne hfull
        clear hx
        cases hfk : f k
        · rw [hfk] at HC
          go_wp2_with fail
          refine HC.out.mono ?_
          rintro e w2 ⟨rfl, rfl⟩
          go_wp2
          go_ret2
          exact ⟨.inl ⟨k, hk0, hlt, hfk, fun j h1 h2 => HALL.out j h1 h2 (by omega), rfl⟩, rfl⟩
        · rw [hfk] at HC
          have hw : IntKind.i64.wrap ((k : Int) + 1) = ((k + 1 : Nat) : Int) := by rw [IntWalk.i64_in _ (by omega)]; omega
          go_wp2_with fail
          refine HC.out.mono ?_
          rintro e w2 ⟨rfl, rfl⟩
          go_wp2
          go_roundw
          case rel => exact ⟨trivial, k + 1, by omega, by omega, by first | rfl | go_num, fun j h1 h2 h3 => by
            by_cases h4 : j < k
            · exact HALL.out j h1 h4 h3
            · obtain rfl : j = k := by omega
              exact hfk⟩
          case measure => simp [RowKit.intOf]; omega
    · have hlt' : ¬ (k : Int) < hi := by omega
      go_wp2
      go_ret2
      exact ⟨.inr ⟨fun j h1 h2 => HALL.out j h1 (by omega) h2, rfl⟩, rfl⟩
end Go.Proofs.YtaplmlldmhdhoaaGreatDoor
