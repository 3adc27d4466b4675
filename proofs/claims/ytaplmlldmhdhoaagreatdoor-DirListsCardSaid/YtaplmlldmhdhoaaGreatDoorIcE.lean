/- IcD, IcE in one text. -/
import Derived.Test.YtaplmlldmhdhoaaGreatDoorIcC
/- Write. -/
namespace Go.Proofs.YtaplmlldmhdhoaaGreatDoor
open Go.RowKit Go.Maps
set_option linter.unusedVariables false

variable {w w' : World} {pv n N : Nat} {S S' T : Nat → Prop} {i : Int} {base : Value} {P P' : Int → Option (List Int)} {bc c c' : Nat → List Int}
theorem call78 (args : Array Value) (w : World) : (callFunc 45 args).run Tryz.prog w = .ok (.enter 45 args) w := by kernel_rfl
set_option maxRecDepth 100000 in
set_option maxHeartbeats 2000000 in
theorem Write1_any (pf pa pb at_ len cp : Nat) (a : Option Addr) (hpa : w.cell? ⟨pa, 0, none⟩ = some (.int .u64 at_)) (hpb : w.cell? ⟨pb, 0, none⟩ = some (.slice a len cp)) (R : World → Prop)
    (hdo : Calls Tryz.prog 46 #[ptrV pf, .int .u64 at_, .slice a len cp] w fun e w' => e = .returned .nilIface ∧ R w') :
    Calls Tryz.prog 45 (#[ptrV pf] ++ #[ptrV pa, ptrV pb]) w fun e w' => e = .returned .nilIface ∧ R w' := by
  have HDO := hid hdo
  clear hdo
  show Calls Tryz.prog 45 #[ptrV pf, ptrV pa, ptrV pb] w _
  go_enter Tryz.func45, Tryz.ntmps45
  go_wp2_with fail
  refine HDO.out.mono ?_
  rintro e w2 ⟨rfl, hr⟩
  have HR := hid hr
  clear hr
  go_wp2
  go_ret
  exact ⟨rfl, HR.out⟩
set_option maxRecDepth 100000 in
set_option maxHeartbeats 4000000 in
theorem Write_ok (hD : Dw w pv S N i base T bc n P c) (hG : Gl w) (hn : n < 700000) (X : Array Value) (size : Int) (ptr : Nat → Nat) (hX : InoIs X size ptr) (hs0 : 0 ≤ size) (hs1 : size < 18446744073709551616) (D : Nat) (hDD : planD N i = (D : Int)) (F : Nat → Bool) (hF : c 69 = bitB F) (at_ : Nat) (l : List Int) (a : Option Addr) (len cp : Nat) (hl : l.length = len) (hlen : 0 < len) (hlen2 : len ≤ 8192) (hlc : len ≤ cp) (hy : By w (fun _ => True) a l) (hat : at_ + len ≤ 1082199040) (q : Nat) (hq : q ≤ 1000) (F' : Nat → Bool) (ptr' : Nat → Nat) (hR : WriteR D N at_ l c F ptr c' F' ptr' q) :
    Calls Tryz.prog 22 #[ptrV pv, .agg X, .int .u64 at_, .slice a len cp] w fun e w' => ∃ X', e = .returned (.tuple #[.agg X', .nilIface]) ∧ InoTo X X' (max size (at_ + len : Nat)) ptr' ∧ ∃ S' n' P', Dw w' pv S' N i base T bc n' P' c' ∧ n' ≤ n + 1000 ∧ Kp S w S' w' := by
  have hXs := hX.sz
  obtain ⟨W1, hW1⟩ : ∃ W, W = w.alloc (.cells X 31) := ⟨_, rfl⟩
  obtain ⟨W2, hW2⟩ : ∃ W, W = W1.alloc (.cells #[.int .u64 (at_ : Int)] 26) := ⟨_, rfl⟩
  obtain ⟨W3, hW3⟩ : ∃ W, W = W2.alloc (.cells #[.slice a len cp] 59) := ⟨_, rfl⟩
  obtain ⟨W4, hW4⟩ : ∃ W, W = W3.alloc (.cells #[.int .i64 0, .int .i64 0, .int .i64 0, .int .u32 0, .int .u32 0, .int .u32 0, .int .u64 0, .int .u64 0, .int .u32 0, .int .u32 0, .int .u32 0, .int .u32 0, .int .u32 0, .int .u32 0, .int .i64 0, .int .i64 0, .int .i64 0, .int .i64 0, .int .i64 0, .int .i64 0, .int .i64 0, .int .i64 0, .int .i64 0] 31) := ⟨_, rfl⟩
  have b1 : Below w.heap.size w W1 := by rw [hW1]; exact (Below.refl _ _).alloc (Nat.le_refl _) _
  have b2 : Below W1.heap.size W1 W2 := by rw [hW2]; exact (Below.refl _ _).alloc (Nat.le_refl _) _
  have b3 : Below W2.heap.size W2 W3 := by rw [hW3]; exact (Below.refl _ _).alloc (Nat.le_refl _) _
  have b4 : Below W3.heap.size W3 W4 := by rw [hW4]; exact (Below.refl _ _).alloc (Nat.le_refl _) _
  have s1 : W1.heap.size = w.heap.size + 1 := by rw [hW1]; simp
  have s2 : W2.heap.size = W1.heap.size + 1 := by rw [hW2]; simp
  have s3 : W3.heap.size = W2.heap.size + 1 := by rw [hW3]; simp
  have s4 : W4.heap.size = W3.heap.size + 1 := by rw [hW4]; simp
  have h1 : W1.heap[w.heap.size]? = some (.cells X 31 (0, 0)) := by rw [hW1]; exact alloc_new w _
  have h2 : W2.heap[W1.heap.size]? = some (.cells #[.int .u64 (at_ : Int)] 26 (0, 0)) := by rw [hW2]; exact alloc_new W1 _
  have h3 : W3.heap[W2.heap.size]? = some (.cells #[.slice a len cp] 59 (0, 0)) := by rw [hW3]; exact alloc_new W2 _
  have h4 : W4.heap[W3.heap.size]? = some (.cells #[.int .i64 0, .int .i64 0, .int .i64 0, .int .u32 0, .int .u32 0, .int .u32 0, .int .u64 0, .int .u64 0, .int .u32 0, .int .u32 0, .int .u32 0, .int .u32 0, .int .u32 0, .int .u32 0, .int .i64 0, .int .i64 0, .int .i64 0, .int .i64 0, .int .i64 0, .int .i64 0, .int .i64 0, .int .i64 0, .int .i64 0] 31 (0, 0)) := by rw [hW4]; exact alloc_new W3 _
  have h14 : W4.heap[w.heap.size]? = some (.cells X 31 (0, 0)) := (b4.block _ (by omega)).trans ((b3.block _ (by omega)).trans ((b2.block _ (by omega)).trans h1))
  have h24 : W4.heap[W1.heap.size]? = some (.cells #[.int .u64 (at_ : Int)] 26 (0, 0)) := (b4.block _ (by omega)).trans ((b3.block _ (by omega)).trans h2)
  have h34 : W4.heap[W2.heap.size]? = some (.cells #[.slice a len cp] 59 (0, 0)) := (b4.block _ (by omega)).trans h3
  have hb4 : Below w.heap.size w W4 := b1.trans ((b2.trans ((b3.trans (b4.mono b3.size)).mono b2.size)).mono b1.size)
  obtain ⟨zi, hzi⟩ : ∃ zi : Array Value, zi = #[.int .i64 0, .int .i64 0, .int .i64 0, .int .u32 0, .int .u32 0, .int .u32 0, .int .u64 0, .int .u64 0, .int .u32 0, .int .u32 0, .int .u32 0, .int .u32 0, .int .u32 0, .int .u32 0, .int .i64 0, .int .i64 0, .int .i64 0, .int .i64 0, .int .i64 0, .int .i64 0, .int .i64 0, .int .i64 0, .int .i64 0] := ⟨_, rfl⟩
  rw [← hzi] at h4
  have HZI : Hid (zi.size = 23) := hid (by rw [hzi]; rfl)
  obtain ⟨pa, hpa⟩ : ∃ pa, pa = W1.heap.size := ⟨_, rfl⟩
  obtain ⟨pb, hpb⟩ : ∃ pb, pb = W2.heap.size := ⟨_, rfl⟩
  obtain ⟨g8, hg8⟩ : ∃ g, g = W3.heap.size := ⟨_, rfl⟩
  rw [← hpa] at h24
  rw [← hpb] at h34
  rw [← hg8] at h4
  have m1 : W4.cell? ⟨pa, 0, none⟩ = some (.int .u64 (at_ : Int)) := cell_of h24 rfl
  have m2 : W4.cell? ⟨pb, 0, none⟩ = some (.slice a len cp) := cell_of h34 rfl
  obtain ⟨SZ, hSZ⟩ : ∃ SZ, SZ = max size ((at_ + len : Nat) : Int) := ⟨_, rfl⟩
  have HCH := hid (changed_ok (c' := c') (hD.later hb4) hn 45 #[ptrV pa, ptrV pb] call78 X size SZ ptr ptr' hX (fun W pf pd Sd hbW hpf hsd hfw => by
    refine Write1_any pf pa pb at_ len cp a (cell_later hbW m1) (cell_later hbW m2) _ ?_
    have hbw : Below w.heap.size w W := hb4.trans (hbW.mono hb4.size)
    have h0 := hG.lt
    refine (write_any hfw (hG.later hbw) (fun h => by have := hsd 1 h; omega) (by omega) D hDD F hF at_ l a len cp hl hlen hlc ?_ hat hs0 hs1 q (by omega) c' F' ptr' hR).mono ?_
    · exact ((hy.weak (S' := fun g => g < w.heap.size) (fun g _ hl => hl)).later hbw).weak (fun g hg _ => ⟨fun h => by have := hsd g h; have := hb4.size; omega, by have := hb4.size; omega⟩)
    · rintro e w' ⟨rfl, S', n', P', hn', hf', _, hk'⟩
      rw [hSZ]
      exact ⟨rfl, S', n', P', by omega, hf', hk'⟩))
  have u1 : ¬ (8192 : Int) < len := by omega
  have u2 : ¬ (1082199040 : Int) < at_ := by omega
  have u3 : IntKind.u64.wrap (len : Int) = (len : Int) := by rw [IntKind.wrap_u64]; omega
  have u4 : IntKind.u64.wrap (1082199040 - (at_ : Int)) = ((1082199040 - at_ : Nat) : Int) := by rw [IntKind.wrap_u64]; omega
  have u5 : ¬ ((1082199040 - at_ : Nat) : Int) < (len : Int) := by omega
  have u6 : ¬ 1082199040 - at_ < len := by omega
  have HH14 := hid h14
  have HH4 := hid h4
  have HXS := hid hXs
  have HB4 := hid hb4
  have HNS : Hid (∀ g, w.heap.size ≤ g → ¬ S g ∧ ¬ T g) := hid (fun g hg => ⟨fun h => by have := hD.s g h; omega, fun h => by have := hD.t.lt h; omega⟩)
  have HG8 : Hid (w.heap.size ≤ g8 ∧ g8 < W4.heap.size) := hid ⟨by omega, by omega⟩
  have hpa' := hpa.symm
  have hpb' := hpb.symm
  have hg8' := hg8.symm
  rw [← hSZ]
  obtain ⟨dd, hdd⟩ : ∃ dd, dd = 1082199040 - at_ := ⟨_, rfl⟩
  rw [← hdd] at u4 u5 u6
  clear b1 b2 b3 b4 s1 s2 s3 s4 h1 h2 h3 h4 h14 h24 h34 hb4 hzi hpa hpb hg8 hSZ hD hG hX hR hy hat hlc hlen hlen2 hl hdd hF hs0 hs1
  go_enter Tryz.func22, Tryz.ntmps22
  go_wp2_with (first | (rw [← hW1]; clear hW1) | (rw [← hW2]; clear hW2) | (rw [← hW3]; clear hW3) | (rw [← hW4]; clear hW4) | (refine wpList_load_row rfl 31 _ rfl w.heap.size rfl 31 X (0, 0) _ HH14.out Tryz.underlying31 rfl (by rw [HXS.out]; exact sizeIno) ?_))
  refine HCH.out.mono ?_
  rintro e w6 ⟨X', rfl, hto, S6, n6, P6, hd6, hn6, hk6⟩
  have h66 := (hk6.block HG8.out.2 (HNS.out g8 HG8.out.1).1).trans HH4.out
  have H66 := hid h66
  have HTO := hid hto
  have hXs' : X'.size = 23 := hto.is_.sz
  have HXS' := hid hXs'
  have HD6 := hid hd6
  have HN6 := hid hn6
  have HK6 := hid hk6
  clear hd6 hn6 hk6 hto h66 HCH m1 m2 hpa' hpb' hg8' u1 u2 u3 u4 u5 u6
  go_wp2_with (first | (refine wpList_store_row rfl 31 _ _ rfl g8 X' rfl rfl 31 zi H66.out (by rw [HXS'.out]; exact sizeIno) (by rw [HXS'.out]; exact HZI.out) HTO.out.is_.one ?_))
  refine bodyPost_ret (results_ct rfl _ _ g8 X' _ _ rfl (setRow_heap w6 g8 zi X' _ _ H66.out) Tryz.underlying31 (by rw [HXS'.out]; exact sizeIno)) rfl ⟨X', rfl, HTO.out, S6, n6, P6, ?_, HN6.out, fun b hb => ?_, ?_⟩
  · refine HD6.out.mods (setRow_mods w6 g8 X') (fun g hg e => ?_)
    subst e
    rcases hg with h | h
    · rcases HK6.out.1 _ h with h2 | h2
      · exact (HNS.out _ HG8.out.1).1 h2
      · have := HG8.out.2; omega
    · exact (HNS.out _ HG8.out.1).2 h
  · rcases HK6.out.1 b hb with h | h
    · exact .inl h
    · exact .inr (Nat.le_trans HB4.out.size h)
  · exact ((Mods.of_below HB4.out).tr HK6.out.2).trans (setRow_mods w6 g8 X') (fun b hb => by subst hb; exact .inr HG8.out.1)
end Go.Proofs.YtaplmlldmhdhoaaGreatDoor

/- What is written, as pure steps; a new volume. -/
namespace Go.Proofs.YtaplmlldmhdhoaaGreatDoor
open Go.RowKit Go.Maps
set_option linter.unusedVariables false

theorem Reach.bits {k D N m a : Nat} {c c' : Nat → List Int} {F F' : Nat → Bool} {ptr ptr' : Nat → Nat} (h : Reach k D N m c F ptr c' F' ptr' a) (hD : 70 ≤ D) (hc : c 69 = bitB F) : c' 69 = bitB F' := by
  induction h with
  | done _ _ => exact hc
  | fill _ _ ho hx _ ih => exact ih (fillC_69 _ _ _ _ _ (by have := hx.1; omega) (by rcases ho with h | h <;> omega))
theorem WriteR.bits {D N at_ q : Nat} {l : List Int} {c c' : Nat → List Int} {F F' : Nat → Bool} {ptr ptr' : Nat → Nat} (h : WriteR D N at_ l c F ptr c' F' ptr' q) (hD : 70 ≤ D) (hc : c 69 = bitB F) : c' 69 = bitB F' := by
  induction h with
  | nil => exact hc
  | cons _ hr h1 _ _ _ ih => exact ih (by rw [updN_other _ _ (by omega)]; exact hr.bits hD hc)
theorem find_error {c : Nat → List Int} {ptr : Nat → Nat} {k : Nat} (hk : k < 6) (h : ptr k = 0) : findF c ptr k = .error (0, k, k + 1) := by
  unfold findF comeF
  rw [if_pos hk, if_pos h, Nat.mod_one]
  simp
theorem find_okk {c : Nat → List Int} {ptr : Nat → Nat} {k a : Nat} (hk : k < 6) (h : ptr k = a) (ha : a ≠ 0) : findF c ptr k = .ok a := by
  unfold findF comeF
  rw [if_pos hk, if_neg (by omega), h]
theorem findOk_low {c : Nat → List Int} {ptr : Nat → Nat} {N k : Nat} (hk : k < 6) : FindOk c ptr N k := ⟨fun h => by omega, fun h => by omega, fun h => by omega⟩
/-- A block of the first six that is a hole. -/
theorem reach_low {c : Nat → List Int} {F : Nat → Bool} {ptr : Nat → Nat} {D N k x : Nat} (hk : k < 6) (h : ptr k = 0) (hx : LowF F D N x) (hx0 : x ≠ 0) : Reach k D N 1 c F ptr (fillC c F x 0 k) (flip1 F x) (fillP ptr x 0 k) x :=
  .fill (findOk_low hk) (find_error hk h) (.inl ⟨rfl, by omega⟩) hx (.done (findOk_low hk) (find_okk hk (by unfold fillP updP; simp) hx0))
theorem fresh_bits {N : Nat} {i : Int} (hp : PlanOk N i) (hN : N ≤ 4096) (s ns : Int) : cont (mkfsL N i s ns) 69 = bitB (fun k => decide ((k : Int) ≤ planD N i) || decide ((N : Int) ≤ (k : Int))) := by
  have h := cont_bm (s := s) (ns := ns) hp (r := 0) (by have := hp.b0; omega)
  rw [Nat.add_zero] at h
  rw [h]
  exact bitB_congr (fun k hk => by unfold bmB; simp)
set_option maxRecDepth 100000 in
set_option maxHeartbeats 1000000 in
/-- A view of a new volume, by its blocks. -/
theorem Fresh_dw (w : World) (N : Nat) (i : Int) (hp : PlanOk N i) (hN : N ≤ 4096) :
    Calls Tryz.prog 14 #[n64 N, n64 i] w fun e w' => ∃ pv S base T bc, e = .returned (ptrV pv) ∧ Dw w' pv S N i base T bc 0 (fun _ => none) bc ∧ bc 69 = bitB (fun k => decide ((k : Int) ≤ planD N i) || decide ((N : Int) ≤ (k : Int))) ∧ (∀ g, S g → w.heap.size ≤ g) ∧ (∀ g, T g → w.heap.size ≤ g) ∧ Below w.heap.size w w' := by
  have HM := hid (Made_ok w N i 0 0 hp (by decide) (by decide) (by decide) (by decide))
  have HP := hid hp
  have HN := hid hN
  clear hp hN
  go_enter Tryz.func14, Tryz.ntmps14
  go_wp2_with fail
  refine HM.out.mono ?_
  rintro e w1 ⟨q, rfl, hB, hb1⟩
  rw [Int.toNat_natCast] at hB
  have HO := hid (Over_any w1 q N _ _ _ hB i HP.out (cont_0 HP.out))
  have HB := hid hB
  have HB1 := hid hb1
  clear hB hb1 HM
  go_wp2_with fail
  refine HO.out.mono ?_
  rintro e w2 ⟨pv, rfl, hv, hb2⟩
  have hB2 := HB.out.later hb2
  have HD : Hid (Dw w2 pv _ N i (baseV q) _ (cont (mkfsL N i 0 0)) 0 (fun _ => none) (cont (mkfsL N i 0 0))) := hid ⟨hv, Tl.ofBs hB2 (by have := HN.out; omega) (fun g hg => Nat.lt_of_lt_of_le hg.2 hb2.size), fun k _ => rfl, fun _ _ _ => rfl, fun g hg => hg.2, fun g hg hs => by have := hg.2; have := hs.1; omega, HP.out, HN.out, fun k hk => hB2.len hk, fun k hk => hB2.isB hk⟩
  have HB2 := hid hb2
  clear hv hb2 HO hB2
  go_wp2
  go_ret
  exact ⟨pv, _, _, _, _, rfl, HD.out, fresh_bits HP.out HN.out 0 0, fun g hg => Nat.le_trans HB1.out.size hg.1, fun g hg => hg.1, HB1.out.trans (HB2.out.mono HB1.out.size)⟩
end Go.Proofs.YtaplmlldmhdhoaaGreatDoor
