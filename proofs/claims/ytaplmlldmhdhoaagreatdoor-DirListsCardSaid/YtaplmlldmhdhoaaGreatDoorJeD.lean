/- Add. -/
import Derived.Test.YtaplmlldmhdhoaaGreatDoorJdF
import Derived.Test.YtaplmlldmhdhoaaGreatDoorJdG
import Derived.Test.YtaplmlldmhdhoaaGreatDoorJeC
import Derived.Test.YtaplmlldmhdhoaaGreatDoorIcE
namespace Go.Proofs.YtaplmlldmhdhoaaGreatDoor
open Go.RowKit Go.Maps
set_option linter.unusedVariables false
set_option maxRecDepth 100000 in
theorem isInode_yes (w : World) (i : Int) (h1 : 1 ≤ i) (h2 : i < 4294967296) : Calls Tryz.prog 19 #[n64 i] w fun e w' => e = .returned (.bool true) ∧ w' = w := by
  have u1 : IntKind.u64.wrap i = i := by rw [IntKind.wrap_u64]; omega
  have u2 : i ≤ 4294967295 := by omega
  go_enter Tryz.func19, Tryz.ntmps19
  go_wp2
  go_ret
  exact ⟨rfl, rfl⟩
theorem results_ctt {fn : Func} {t u v : Tmp} {ty : TypeId} (h : fn.results = #[.cell t ty, .tmp u, .tmp v]) (tmps : Array Value) (w : World) (g : Nat) (cs : Array Value) (t' : TypeId) (fs : _) (hp : tmps.getD t undef = .pointer (some ⟨g, 0, none⟩))
    (hg : w.heap[g]? = some (.cells cs t' (0, 0))) (hu : Tryz.prog.underlying ty = some (.struct fs)) (hi : (Tryz.prog.info? ty).map (·.size) = some cs.size) :
    (results fn tmps).run Tryz.prog w = .ok (.tuple #[.agg cs, tmps.getD u undef, tmps.getD v undef]) w := by
  have hl := run_loadVar_row (P := Tryz.prog) w g t' ty cs (0, 0) _ hg hu rfl hi
  have hp' : tmps[t]?.getD undef = .pointer (some ⟨g, 0, none⟩) := by simpa using hp
  simp [results, h, hp', asAddr, hl]
variable {w : World} {pv n N D hi : Nat} {S T : Nat → Prop} {i : Int} {base : Value} {P : Int → Option (List Int)} {bc c : Nat → List Int} {ptr : Nat → Nat} {L : List Ln} {X : Array Value} {pe : Addr}
theorem fin_add {Wb Ww F : World} {q n' : Nat} {S' : Nat → Prop} {P' : Int → Option (List Int)} {c' : Nat → List Int} (hB : Below w.heap.size w Wb) (hK : Kp S Wb S' Ww) (hD : Dw Ww pv S' N i base T bc n' P' c') (hM : Mods (fun g => g = q) Ww F) (hq : w.heap.size ≤ q) (hn : ¬ S' q) (hT : ∀ g, T g → g < w.heap.size) :
    Dw F pv S' N i base T bc n' P' c' ∧ Kp S w S' F :=
  ⟨hD.mods hM (fun g hg e => by
      subst e
      rcases hg with h | h
      · exact hn h
      · have := hT g h; omega),
    fun g hg => (hK.1 g hg).imp id (fun h => Nat.le_trans hB.size h), ((Mods.of_below hB).tr hK.2).trans hM (fun g e => .inr (by rw [e]; exact hq))⟩
/-- What is read on: the inode's box, the two boxes of the error, the result's. -/
def Sq (b t pa p : Nat) (X z : Array Value) (W : World) : Prop := W.heap[b]? = some (.cells X 31 (0, 0)) ∧ W.cell? ⟨t, 0, none⟩ = some (ptrV pa) ∧ W.cell? ⟨pa, 1, none⟩ = some (n64 p) ∧ W.heap[b + 1]? = some (.cells z 31 (0, 0))
theorem Sq.later {b t pa p : Nat} {X z : Array Value} {W W' : World} (h : Sq b t pa p X z W) (hb : Below W.heap.size W W') : Sq b t pa p X z W' := ⟨(hb.block b (Array.getElem?_eq_some_iff.1 h.1).1).trans h.1, cell_later hb h.2.1, cell_later hb h.2.2.1, (hb.block _ (Array.getElem?_eq_some_iff.1 h.2.2.2).1).trans h.2.2.2⟩
theorem Sq.kp {b t pa p : Nat} {X z : Array Value} {W W' : World} {S S' : Nat → Prop} (h : Sq b t pa p X z W) (hk : Kp S W S' W') (hn : ¬ S b ∧ ¬ S t ∧ ¬ S pa ∧ ¬ S (b + 1)) : Sq b t pa p X z W' := ⟨(hk.block (Array.getElem?_eq_some_iff.1 h.1).1 hn.1).trans h.1, hk.cell h.2.1 hn.2.1, hk.cell h.2.2.1 hn.2.2.1, (hk.block (Array.getElem?_eq_some_iff.1 h.2.2.2).1 hn.2.2.2).trans h.2.2.2⟩
theorem Sq.row {b t pa p q : Nat} {X z Y : Array Value} {W : World} (h : Sq b t pa p X z W) (hn : b ≠ q ∧ t ≠ q ∧ pa ≠ q ∧ b + 1 ≠ q) : Sq b t pa p X z (W.setRow q Y) := ⟨(setRow_other _ _ _ _ hn.1).trans h.1, (World.cell?_of_block (setRow_other _ _ _ _ hn.2.1)).trans h.2.1, (World.cell?_of_block (setRow_other _ _ _ _ hn.2.2.1)).trans h.2.2.1, (setRow_other _ _ _ _ hn.2.2.2).trans h.2.2.2⟩
set_option maxRecDepth 100000 in
set_option maxHeartbeats 8000000 in
theorem Add_new (hD : Dw w pv S N i base T bc n P c) (hd : Dd N D hi c ptr L) (hDD : planD N i = (D : Int)) (hX : InoIs X ((L.length * 32 : Nat) : Int) ptr) (hG : Gl w) (hE : En0 w pe) (hGs : ¬ S 0 ∧ ¬ T 0) (hn : n < 700000) (hm : L.length < 96) (hhi : hi < N) (x : Ln) (hx : LnOk x) (h1 : 1 ≤ x.i) (hp : 0 < x.nm.length) (hnm : ∀ y ∈ x.nm, y ≠ 47 ∧ y ≠ 0) (hno : ∀ y ∈ L, ¬ Has x.nm y) :
    Calls Tryz.prog 9 #[ptrV pv, .agg X, .string (strOfNums x.nm), n64 x.i] w fun e w' => ∃ X' c' hi' ptr' S' n' P', e = .returned (.tuple #[.agg X', n64 (roomF L.length L), .nilIface]) ∧ InoTo X X' (((addL L x).length * 32 : Nat) : Int) ptr' ∧ Dd N D hi' c' ptr' (addL L x) ∧ hi ≤ hi' ∧ hi' ≤ hi + 1 ∧ Off c c' ptr L.length hi N ∧ (∀ j, j * 16 < L.length → ptr' j = ptr j) ∧ Dw w' pv S' N i base T bc n' P' c' ∧ n' ≤ n + 1000 ∧ Kp S w S' w' := by
  obtain ⟨c', hi', ptr', qw, hqw, hwr, hdd', hsz, hh1, hh2, hoff, hpp⟩ := dd_add hd hm hhi x hx
  obtain ⟨p, hpr⟩ : ∃ p, p = roomF L.length L := ⟨_, rfl⟩
  rw [← hpr] at hwr hsz ⊢
  have hp96 : p ≤ 96 := by rw [hpr]; have := roomF_le L.length L; omega
  obtain ⟨SZ, hSZ⟩ : ∃ SZ : Int, SZ = (((addL L x).length * 32 : Nat) : Int) := ⟨_, rfl⟩
  have hXs := hX.sz
  obtain ⟨z23, hz23⟩ : ∃ z : Array Value, z = #[.int .i64 0, .int .i64 0, .int .i64 0, .int .u32 0, .int .u32 0, .int .u32 0, .int .u64 0, .int .u64 0, .int .u32 0, .int .u32 0, .int .u32 0, .int .u32 0, .int .u32 0, .int .u32 0, .int .i64 0, .int .i64 0, .int .i64 0, .int .i64 0, .int .i64 0, .int .i64 0, .int .i64 0, .int .i64 0, .int .i64 0] := ⟨_, rfl⟩
  obtain ⟨b, hb⟩ : ∃ b, w.heap.size = b := ⟨_, rfl⟩
  obtain ⟨W1, hW1⟩ : ∃ W, W = w.alloc (.cells X 31) := ⟨_, rfl⟩
  obtain ⟨W2, hW2⟩ : ∃ W, W = W1.alloc (.cells #[.int .i64 0, .int .i64 0, .int .i64 0, .int .u32 0, .int .u32 0, .int .u32 0, .int .u64 0, .int .u64 0, .int .u32 0, .int .u32 0, .int .u32 0, .int .u32 0, .int .u32 0, .int .u32 0, .int .i64 0, .int .i64 0, .int .i64 0, .int .i64 0, .int .i64 0, .int .i64 0, .int .i64 0, .int .i64 0, .int .i64 0] 31) := ⟨_, rfl⟩
  have s1 : W1.heap.size = b + 1 := by rw [hW1]; simp [hb]
  have s2 : W2.heap.size = b + 1 + 1 := by rw [hW2]; simp [s1]
  have b1 : Below w.heap.size w W1 := by rw [hW1]; exact (Below.refl _ _).alloc (Nat.le_refl _) _
  have b2 : Below W1.heap.size W1 W2 := by rw [hW2]; exact (Below.refl _ _).alloc (Nat.le_refl _) _
  have b12 := b1.trans (b2.mono b1.size)
  have k0 : W2.heap[b]? = some (.cells X 31 (0, 0)) := (b2.block b (by omega)).trans (by rw [hW1, ← hb]; exact alloc_new w _)
  have k1 : W2.heap[b + 1]? = some (.cells z23 31 (0, 0)) := by rw [hW2, ← s1, hz23]; exact alloc_new W1 _
  have HNA := Name_any (strOfNums x.nm) W2
  rw [nameS_ok hp hx.len hx.isB hnm] at HNA
  replace HNA := hid HNA
  have HIS := hid (isInode_yes W2 x.i h1 hx.i1)
  have HSR := hid (search_any (hD.later b12) hd hX (hE.later b12) hGs x.nm hx.isB)
  have HD := hid hD
  have HG := hid hG
  have HWR0 := hid (fun (W : World) (g : Nat) (hb : Below w.heap.size w W) (hy : By W (fun _ => True) (some ⟨g, 0, none⟩) (lineB x)) => Write_ok (hD.later hb) (hG.later hb) hn X _ ptr hX (by omega) (by have := hd.max; omega) D hDD (FU N hi) hd.bits (p * 32) (lineB x) (some ⟨g, 0, none⟩) 32 32 (lineB_len hx) (by omega) (by omega) (Nat.le_refl _) hy (by omega) qw (by omega) (FU N hi') ptr' hwr)
  have hmx : max ((L.length * 32 : Nat) : Int) ((p * 32 + 32 : Nat) : Int) = SZ := by rw [hSZ, ← hsz]; omega
  rw [hmx] at HWR0
  have HENC := hid (fun (W : World) => encoded_any W x hx hp)
  have HRES : Hid (Dd N D hi' c' ptr' (addL L x) ∧ hi ≤ hi' ∧ hi' ≤ hi + 1 ∧ Off c c' ptr L.length hi N ∧ (∀ j, j * 16 < L.length → ptr' j = ptr j)) := hid ⟨hdd', hh1, hh2, hoff, hpp⟩
  have HNO := hid hno
  have HXS := hid hXs
  have HZI : Hid (z23.size = 23) := hid (by rw [hz23]; rfl)
  have HZ23 := hid hz23
  have HB := hid hb
  have HK := hid (And.intro k0 k1)
  have HB12 := hid b12
  have HP := hid hp96
  have HPR := hid hpr
  have HSZ := hid hSZ
  have HT : Hid (∀ g, T g → g < w.heap.size) := hid (fun g hg => hD.t.lt hg)
  have HNS : Hid (∀ g, w.heap.size ≤ g → ¬ S g) := hid (fun g hg h => by have := hD.s g h; omega)
  rw [← hSZ]
  clear hwr hdd' hsz hh1 hh2 hoff hpp hp96 hXs hz23 hD hd hDD hX hG hE hGs hn hm hhi hx h1 hp hnm hno k0 k1 b1 b2 b12 hpr hSZ hmx s2
  go_enter Tryz.func9, Tryz.ntmps9
  go_wp2_with (first | (rw [← hW1]; clear hW1) | (rw [hb]; clear hb) | (rw [← hW2]; clear hW2) | (rw [s1]; clear s1) | (go_at_call 18; refine HNA.out.mono ?_; rintro e w9 ⟨rfl, hw9⟩; rw [hw9]; clear hw9) | (go_at_call 19; refine HIS.out.mono ?_; rintro e w9 ⟨rfl, hw9⟩; rw [hw9]; clear hw9) | (refine wpList_load_row rfl 31 _ rfl b rfl 31 X (0, 0) _ HK.out.1 Tryz.underlying31 rfl (by rw [HXS.out]; exact sizeIno) ?_))
  refine HSR.out.mono ?_
  rintro e w3 ⟨hb3, hsr⟩
  rcases hsr with ⟨p2, hp2, hh, _, _⟩ | ⟨_, pa, rfl, hpa, hpc⟩
  · exact absurd hh (HNO.out _ (by rw [List.getD_eq_getElem?_getD, List.getElem?_eq_getElem hp2]; exact List.getElem_mem _))
  rw [← HPR.out] at hpc
  obtain ⟨l4, hl4⟩ : ∃ l, w3.heap.size = l := ⟨_, rfl⟩
  obtain ⟨W4, hW4⟩ : ∃ W, W = w3.alloc (.cells ln0 42) := ⟨_, rfl⟩
  obtain ⟨W5, hW5⟩ : ∃ W, W = W4.setRow l4 ln0 := ⟨_, rfl⟩
  obtain ⟨t, ht⟩ : ∃ t, W5.heap.size = t := ⟨_, rfl⟩
  obtain ⟨W6, hW6⟩ : ∃ W, W = W5.alloc (.cells #[.pointer none] 63) := ⟨_, rfl⟩
  have k4 : W4.heap[l4]? = some (.cells ln0 42 (0, 0)) := by rw [hW4, ← hl4]; exact alloc_new w3 _
  have b4 : Below w3.heap.size w3 W4 := by rw [hW4]; exact (Below.refl _ _).alloc (Nat.le_refl _) _
  have b5 : Below w3.heap.size w3 W5 := by rw [hW5]; exact below_setRow b4 (by omega) _
  have b6 : Below w3.heap.size w3 W6 := by rw [hW6]; exact b5.alloc b5.size _
  have k6 : W6.heap[t]? = some (.cells #[.pointer none] 63 (0, 0)) := by rw [hW6, ← ht]; exact alloc_new W5 _
  have hB3 : Below w.heap.size w w3 := HB12.out.trans (hb3.mono HB12.out.size)
  have hB6 : Below w.heap.size w W6 := hB3.trans (b6.mono hB3.size)
  have hpal := (Array.getElem?_eq_some_iff.1 hpc).1
  have hpa6 : W6.heap[pa]? = some (.cells #[n64 2, n64 p] 69 (0, 0)) := (b6.block pa hpal).trans hpc
  have h26 : Below W2.heap.size W2 W6 := hb3.trans (b6.mono hb3.size)
  have kb6 : W6.heap[b]? = some (.cells X 31 (0, 0)) := (h26.block b (Array.getElem?_eq_some_iff.1 HK.out.1).1).trans HK.out.1
  have kb6' : W6.heap[b + 1]? = some (.cells z23 31 (0, 0)) := (h26.block (b + 1) (Array.getElem?_eq_some_iff.1 HK.out.2).1).trans HK.out.2
  have hst : l4 < t := by rw [← ht, hW5]; simp [World.setRow]; exact (Array.getElem?_eq_some_iff.1 k4).1
  have htw : w.heap.size ≤ t ∧ b + 1 < t ∧ pa < t := ⟨by have := hB3.size; omega, by have := (Array.getElem?_eq_some_iff.1 HK.out.2).1; have := hb3.size; omega, by omega⟩
  have HPB : Hid (b + 1 < pa) := hid (by have := (Array.getElem?_eq_some_iff.1 HK.out.2).1; omega)
  have HPA : Hid (¬ S pa) := hid (HNS.out pa (by have := HB12.out.size; omega))
  have HAS := hid (As_absent pa t (.pointer none) W6 (HG.out.later hB6) (cell_of k6 rfl) (froz_of k6 0))
  have HK4 := hid k4
  have H6 := hid (And.intro hB6 (And.intro hpa6 (And.intro kb6 (And.intro kb6' (And.intro k6 htw)))))
  clear hb3 hpa hpc hpal b4 b5 b6 k4 k6 hB3 hB6 hpa6 h26 kb6 kb6' hst htw HSR HNA HIS HB12 HK
  go_wp2_with (first | (rw [← hW4]; clear hW4) | (rw [hl4]; clear hl4) | (refine wpList_store_row rfl 42 _ _ rfl l4 ln0 rfl rfl 42 _ HK4.out sizeLn rfl (oneLn _ _ _) ?_; rw [← hW5]; clear hW5) | (rw [← hW6]; clear hW6) | (rw [ht]; clear ht))
  refine HAS.out.mono ?_
  rintro e w7 ⟨rfl, w6, hb66, hw7⟩
  obtain ⟨hB6, hpa6, kb6, kb6', k6, htw⟩ := H6.out
  have hB66 : Below w.heap.size w w6 := hB6.trans (hb66.mono hB6.size)
  have hB7 : Below w.heap.size w w7 := by rw [hw7]; exact hB66.setCell htw.1 _
  have hk7 : ∀ g, g ≠ t → g < W6.heap.size → w7.heap[g]? = W6.heap[g]? := fun g h1 h2 => by
    rw [hw7, Below.heap_setCell _ _ _ _ (fun e => h1 e)]
    exact hb66.block g h2
  have c7 : w7.cell? ⟨t, 0, none⟩ = some (ptrV pa) := by rw [hw7]; exact cell_of (setc ((hb66.block t (Array.getElem?_eq_some_iff.1 k6).1).trans k6) 0 _) rfl
  have p7 : w7.heap[pa]? = some (.cells #[n64 2, n64 p] 69 (0, 0)) := (hk7 pa (by omega) (Array.getElem?_eq_some_iff.1 hpa6).1).trans hpa6
  have x7 : w7.heap[b]? = some (.cells X 31 (0, 0)) := (hk7 b (by omega) (Array.getElem?_eq_some_iff.1 kb6).1).trans kb6
  have r7 : w7.heap[b + 1]? = some (.cells z23 31 (0, 0)) := (hk7 (b + 1) (by omega) (Array.getElem?_eq_some_iff.1 kb6').1).trans kb6'
  have hbw := HB.out
  have HNE : Hid (t ≠ b + 1 ∧ pa ≠ b + 1) := hid ⟨by omega, by have := HPB.out; omega⟩
  have HBV := hid hB7
  have HS7 : Hid (Sq b t pa p X z23 w7.drew) := hid ⟨x7, c7, cell_of p7 rfl, r7⟩
  have HPW : Hid (¬ S b ∧ ¬ S t ∧ ¬ S pa ∧ ¬ S (b + 1)) := hid ⟨HNS.out b (by omega), HNS.out t htw.1, HPA.out, HNS.out _ (by omega)⟩
  have HSW : Hid (∀ (W W' : World) (S' : Nat → Prop), Sq b t pa p X z23 W → Kp S W S' W' → Sq b t pa p X z23 W') := hid (fun W W' S' h hk => h.kp hk HPW.out)
  have HSB : Hid (∀ (W W' : World), Sq b t pa p X z23 W → Below W.heap.size W W' → Sq b t pa p X z23 W') := hid (fun W W' h hb => h.later hb)
  have HLT7 : Hid (b + 1 < w7.heap.size ∧ t < w7.heap.size ∧ pa < w7.heap.size) := hid ⟨(Array.getElem?_eq_some_iff.1 r7).1, World.block_lt_of_cell? w7 _ c7, (Array.getElem?_eq_some_iff.1 p7).1⟩
  have HSQ : Hid (∀ (W : World) (q : Nat) (Y : Array Value), Sq b t pa p X z23 W → w7.heap.size ≤ q → Sq b t pa p X z23 (W.setRow q Y)) := hid (fun W q Y h hq => h.row (by have := HLT7.out; omega))
  have HWR := hid (fun (W : World) (g : Nat) (hb : Below w7.heap.size w7 W) hy => HWR0.out W g (HBV.out.trans (hb.mono HBV.out.size)) hy)
  clear hb66 hw7 hB6 hpa6 kb6 kb6' k6 htw hB66 hB7 hk7 c7 p7 x7 r7 hbw HAS H6 HK4
  go_upto_region 9 with fail
  go_cut [14, 12] from 42 to 55 (fun s14 s12 wc => ∃ q X' S' n' P', s14 = ptrV q ∧ s12 = .nilIface ∧ wc.heap[q]? = some (.cells X' 31 (0, 0)) ∧ InoTo X X' SZ ptr' ∧ Dw wc pv S' N i base T bc n' P' c' ∧ n' ≤ n + 1000 ∧ Kp S w S' wc ∧ w7.heap.size ≤ q ∧ Sq b t pa p X z23 wc ∧ (∀ g, S' g → S g ∨ w7.heap.size ≤ g))
  case first =>
    refine wp_region_held_drew (S := Sq b t pa p X z23) (by kernel_rfl) HS7.out (fun hS => ?_)
    refine nany_take 0 43 (ptrV pv) rfl rfl (by kernel_rfl) (by kernel_rfl) (by kernel_rfl) (fun _ _ _ h => h) (Or.inl ⟨by rfl, ?_⟩) hS ?_
    · rintro w' hS'
      go_simp
    simp only [List.setIfInBounds_toArray, List.set_cons_zero, List.set_cons_succ]
    refine nany_take 1 44 (.agg X) rfl rfl (by kernel_rfl) (by kernel_rfl) (by kernel_rfl) (fun _ _ _ h => h) (Or.inl ⟨by rfl, ?_⟩) hS ?_
    · rintro w' hS'
      exact ex_load 31 (.tmp 5) rfl b rfl 31 X (0, 0) _ hS'.1 Tryz.underlying31 (by rw [HXS.out]; exact sizeIno)
    simp only [List.setIfInBounds_toArray, List.set_cons_zero, List.set_cons_succ]
    refine nany_take 2 45 (ptrV pa) rfl rfl (by kernel_rfl) (by kernel_rfl) (by kernel_rfl) (fun _ _ _ h => h) (Or.inl ⟨by rfl, ?_⟩) hS ?_
    · rintro w' hS'
      obtain ⟨_, x1, x2, _⟩ := hS'; go_simp
    simp only [List.setIfInBounds_toArray, List.set_cons_zero, List.set_cons_succ]
    refine nany_take 3 46 (ptrV pa) rfl rfl (by kernel_rfl) (by kernel_rfl) (by kernel_rfl) (fun _ _ _ h => h) (Or.inl ⟨by rfl, ?_⟩) hS ?_
    · rintro w' hS'
      obtain ⟨_, x1, x2, _⟩ := hS'; go_simp
    simp only [List.setIfInBounds_toArray, List.set_cons_zero, List.set_cons_succ]
    refine nany_take 4 47 (.pointer (some ⟨pa, 1, none⟩)) rfl rfl (by kernel_rfl) (by kernel_rfl) (by kernel_rfl) (fun _ _ _ h => h) (Or.inl ⟨by rfl, ?_⟩) hS ?_
    · rintro w' hS'
      obtain ⟨_, x1, x2, _⟩ := hS'; go_simp
    simp only [List.setIfInBounds_toArray, List.set_cons_zero, List.set_cons_succ]
    refine nany_take 5 48 (n64 p) rfl rfl (by kernel_rfl) (by kernel_rfl) (by kernel_rfl) (fun _ _ _ h => h) (Or.inl ⟨by rfl, ?_⟩) hS ?_
    · rintro w' hS'
      obtain ⟨_, x1, x2, _⟩ := hS'; go_simp
    simp only [List.setIfInBounds_toArray, List.set_cons_zero, List.set_cons_succ]
    refine nany_take 7 50 (.string (strOfNums x.nm)) rfl rfl (by kernel_rfl) (by kernel_rfl) (by kernel_rfl) (fun _ _ _ h => h) (Or.inl ⟨by rfl, ?_⟩) hS ?_
    · rintro w' hS'
      go_simp
    simp only [List.setIfInBounds_toArray, List.set_cons_zero, List.set_cons_succ]
    refine nany_take 8 51 (n64 x.i) rfl rfl (by kernel_rfl) (by kernel_rfl) (by kernel_rfl) (fun _ _ _ h => h) (Or.inl ⟨by rfl, ?_⟩) hS ?_
    · rintro w' hS'
      go_simp
    simp only [List.setIfInBounds_toArray, List.set_cons_zero, List.set_cons_succ]
    refine nany_two 6 14 (by kernel_rfl) ?_ ?_
    · refine nop_callE 49 (f := 23) (args := #[n64 p]) (R := fun v w' => v = .int .u64 ((p * 32 : Nat) : Int) ∧ w' = w7.drew) rfl (by rfl) rfl (by go_simp) ((startOf_any _ p (by have := HP.out; omega)).mono (fun e w' h => ⟨_, h.1, rfl, h.2⟩)) ?_
      rintro v ws ⟨rfl, hws⟩
      rw [hws]
      clear hws ws
      refine ⟨hS, ?_⟩
      simp only [List.setIfInBounds_toArray, List.set_cons_zero, List.set_cons_succ]
      refine nany_two 9 14 (by kernel_rfl) ?_ ?_
      · refine nop_callE 52 (f := 24) (args := #[.string (strOfNums x.nm), n64 x.i]) (R := fun v w' => ∃ g, v = .slice (some ⟨g, 0, none⟩) 32 32 ∧ By w' (fun _ => True) (some ⟨g, 0, none⟩) (lineB x) ∧ Below w7.drew.heap.size w7.drew w') rfl (by rfl) rfl (by go_simp) ((HENC.out _).mono (fun e w' h => by obtain ⟨g, h1, _, h3, h4⟩ := h; exact ⟨_, h1, g, rfl, h3, h4⟩)) ?_
        rintro v we ⟨g, rfl, hy, hbe⟩
        have hS := HSB.out _ _ hS hbe
        have hBe : Below w7.heap.size w7 we := ((Below.refl w7.heap.size w7).drew).trans (hbe.mono ((Below.refl w7.heap.size w7).drew).size)
        refine ⟨hS, ?_⟩
        simp only [List.setIfInBounds_toArray, List.set_cons_zero, List.set_cons_succ]
        refine nany_two 10 14 (by kernel_rfl) ?_ ?_
        · refine nop_callE 53 (f := 22) (args := #[ptrV pv, .agg X, .int .u64 ((p * 32 : Nat) : Int), .slice (some ⟨g, 0, none⟩) 32 32]) (R := fun v w' => ∃ X', v = .tuple #[.agg X', .nilIface] ∧ InoTo X X' SZ ptr' ∧ ∃ S' n' P', Dw w' pv S' N i base T bc n' P' c' ∧ n' ≤ n + 1000 ∧ Kp S we S' w') rfl (by rfl) rfl (by go_simp) ((HWR.out _ g hBe hy).mono (fun e w' h => by obtain ⟨X', h1, h2, h3⟩ := h; exact ⟨_, h1, X', rfl, h2, h3⟩)) ?_
          rintro v ww ⟨X', rfl, hto, S', n', P', hDw, hn', hK⟩
          have hB : Below w.heap.size w we := HBV.out.trans ((hBe).mono HBV.out.size)
          have hz7 : ∀ g, S' g → S g ∨ w7.heap.size ≤ g := fun g hg => (hK.1 g hg).imp id (fun h => Nat.le_trans (hBe).size h)
          have hSw := HSW.out _ _ _ hS hK
          refine ⟨hSw, ?_⟩
          simp only [List.setIfInBounds_toArray, List.set_cons_zero, List.set_cons_succ]
          refine nany_take 11 42 (.tuple #[.agg X', .nilIface]) rfl rfl (by kernel_rfl) (by kernel_rfl) (by kernel_rfl) (fun _ _ _ h => h) (Or.inl ⟨by rfl, ?_⟩) hSw ?_
          · rintro w' hS'
            go_simp
          simp only [List.setIfInBounds_toArray, List.set_cons_zero, List.set_cons_succ]
          refine nany_take 12 54 (.agg X') rfl rfl (by kernel_rfl) (by kernel_rfl) (by kernel_rfl) (fun _ _ _ h => h) (Or.inl ⟨by rfl, ?_⟩) hSw ?_
          · rintro w' hS'
            go_simp
          simp only [List.setIfInBounds_toArray, List.set_cons_zero, List.set_cons_succ]
          refine nany_take 13 55 (.nilIface) rfl rfl (by kernel_rfl) (by kernel_rfl) (by kernel_rfl) (fun _ _ _ h => h) (Or.inl ⟨by rfl, ?_⟩) hSw ?_
          · rintro w' hS'
            go_simp
          simp only [List.setIfInBounds_toArray, List.set_cons_zero, List.set_cons_succ]
          obtain ⟨q, hq⟩ : ∃ q, ww.heap.size = q := ⟨_, rfl⟩
          obtain ⟨wa, hwa⟩ : ∃ W, W = ww.alloc (.cells z23 31) := ⟨_, rfl⟩
          have hqw : wa.heap[q]? = some (.cells z23 31 (0, 0)) := by rw [hwa, ← hq]; exact alloc_new ww _
          have hqb : w.heap.size ≤ q := by rw [← hq]; exact Nat.le_trans hB.size hK.2.size
          have hq7 : w7.heap.size ≤ q := by rw [← hq]; exact Nat.le_trans hBe.size hK.2.size
          have hba : Below ww.heap.size ww wa := by rw [hwa]; exact (Below.refl _ _).alloc (Nat.le_refl _) _
          have hSa := HSB.out _ _ hSw hba
          refine nany_one 14 (by kernel_rfl) ?_
          refine nop_value' 14 (v := .pointer (some ⟨q, 0, none⟩)) (w' := wa) rfl (by rfl) rfl (by rw [hwa, ← hq, HZ23.out]; go_simp) ?_
          refine ⟨hSa, ?_⟩
          simp only [List.setIfInBounds_toArray, List.set_cons_zero, List.set_cons_succ]
          refine nany_one 15 (by kernel_rfl) ?_
          refine nop_skip (w' := wa.setRow q X') rfl (by rfl) rfl (ex_store 31 (.tmp 14) (.tmp 54) rfl (q) X' rfl rfl 31 z23 hqw (by rw [hto.is_.sz]; exact sizeIno) (by rw [hto.is_.sz]; exact HZI.out) hto.is_.one) ?_
          have hF := fin_add hB hK hDw ((Mods.of_below hba).tr (setRow_mods wa q X')) (by exact hqb) (by exact fun e => by have := hDw.s q e; omega) HT.out
          have hSF := HSQ.out _ q X' hSa hq7
          refine ⟨hSF, ?_⟩
          refine nany_take 16 12 (.nilIface) rfl rfl (by kernel_rfl) (by kernel_rfl) (by kernel_rfl) (fun _ _ _ h => h) (Or.inl ⟨by rfl, ?_⟩) hSF ?_
          · rintro w' hS'
            go_simp
          simp only [List.setIfInBounds_toArray, List.set_cons_zero, List.set_cons_succ]
          refine wpAnyH_done (by kernel_rfl) ?_ _
          go_wp2_with fail
          go_meet
          exact ⟨q, X', S', n', P', rfl, rfl, setRow_heap _ _ _ _ _ _ hqw, hto, hF.1, hn', hF.2, hq7, hSF, hz7⟩
        · obtain ⟨q, hq⟩ : ∃ q, we.heap.size = q := ⟨_, rfl⟩
          obtain ⟨wz, hwz⟩ : ∃ W, W = we.alloc (.cells z23 31) := ⟨_, rfl⟩
          have hzq : wz.heap[q]? = some (.cells z23 31 (0, 0)) := by rw [hwz, ← hq]; exact alloc_new we _
          have hqb : w.heap.size ≤ q := by rw [← hq]; exact Nat.le_trans HBV.out.size (hBe).size
          have hq7 : w7.heap.size ≤ q := by rw [← hq]; exact (hBe).size
          have hbz : Below we.heap.size we wz := by rw [hwz]; exact (Below.refl _ _).alloc (Nat.le_refl _) _
          have hS := HSB.out _ _ hS hbz
          have hBz : Below w7.heap.size w7 wz := (hBe).trans (hbz.mono (hBe).size)
          refine nop_value' 14 (v := .pointer (some ⟨q, 0, none⟩)) (w' := wz) rfl (by rfl) rfl (by rw [hwz, ← hq, HZ23.out]; go_simp) ?_
          clear hwz hq
          refine ⟨hS, ?_⟩
          simp only [List.setIfInBounds_toArray, List.set_cons_zero, List.set_cons_succ]
          have hy := hy.later hbz
          refine nany_one 10 (by kernel_rfl) ?_
          refine nop_callE 53 (f := 22) (args := #[ptrV pv, .agg X, .int .u64 ((p * 32 : Nat) : Int), .slice (some ⟨g, 0, none⟩) 32 32]) (R := fun v w' => ∃ X', v = .tuple #[.agg X', .nilIface] ∧ InoTo X X' SZ ptr' ∧ ∃ S' n' P', Dw w' pv S' N i base T bc n' P' c' ∧ n' ≤ n + 1000 ∧ Kp S wz S' w') rfl (by rfl) rfl (by go_simp) ((HWR.out _ g hBz hy).mono (fun e w' h => by obtain ⟨X', h1, h2, h3⟩ := h; exact ⟨_, h1, X', rfl, h2, h3⟩)) ?_
          rintro v ww ⟨X', rfl, hto, S', n', P', hDw, hn', hK⟩
          have hB : Below w.heap.size w wz := HBV.out.trans ((hBz).mono HBV.out.size)
          have hz7 : ∀ g, S' g → S g ∨ w7.heap.size ≤ g := fun g hg => (hK.1 g hg).imp id (fun h => Nat.le_trans (hBz).size h)
          have hSw := HSW.out _ _ _ hS hK
          refine ⟨hSw, ?_⟩
          simp only [List.setIfInBounds_toArray, List.set_cons_zero, List.set_cons_succ]
          refine nany_take 11 42 (.tuple #[.agg X', .nilIface]) rfl rfl (by kernel_rfl) (by kernel_rfl) (by kernel_rfl) (fun _ _ _ h => h) (Or.inl ⟨by rfl, ?_⟩) hSw ?_
          · rintro w' hS'
            go_simp
          simp only [List.setIfInBounds_toArray, List.set_cons_zero, List.set_cons_succ]
          refine nany_take 12 54 (.agg X') rfl rfl (by kernel_rfl) (by kernel_rfl) (by kernel_rfl) (fun _ _ _ h => h) (Or.inl ⟨by rfl, ?_⟩) hSw ?_
          · rintro w' hS'
            go_simp
          simp only [List.setIfInBounds_toArray, List.set_cons_zero, List.set_cons_succ]
          refine nany_take 13 55 (.nilIface) rfl rfl (by kernel_rfl) (by kernel_rfl) (by kernel_rfl) (fun _ _ _ h => h) (Or.inl ⟨by rfl, ?_⟩) hSw ?_
          · rintro w' hS'
            go_simp
          simp only [List.setIfInBounds_toArray, List.set_cons_zero, List.set_cons_succ]
          have hqw : ww.heap[q]? = some (.cells z23 31 (0, 0)) := (hK.block (Array.getElem?_eq_some_iff.1 hzq).1 (HNS.out q hqb)).trans hzq
          refine nany_one 15 (by kernel_rfl) ?_
          refine nop_skip (w' := ww.setRow q X') rfl (by rfl) rfl (ex_store 31 (.tmp 14) (.tmp 54) rfl (q) X' rfl rfl 31 z23 hqw (by rw [hto.is_.sz]; exact sizeIno) (by rw [hto.is_.sz]; exact HZI.out) hto.is_.one) ?_
          have hF := fin_add hB hK hDw (setRow_mods ww q X') (by exact hqb) (by exact fun e => by rcases hK.1 q e with h | h; exact HNS.out q hqb h; have := (Array.getElem?_eq_some_iff.1 hzq).1; omega) HT.out
          have hSF := HSQ.out _ q X' hSw hq7
          refine ⟨hSF, ?_⟩
          refine nany_take 16 12 (.nilIface) rfl rfl (by kernel_rfl) (by kernel_rfl) (by kernel_rfl) (fun _ _ _ h => h) (Or.inl ⟨by rfl, ?_⟩) hSF ?_
          · rintro w' hS'
            go_simp
          simp only [List.setIfInBounds_toArray, List.set_cons_zero, List.set_cons_succ]
          refine wpAnyH_done (by kernel_rfl) ?_ _
          go_wp2_with fail
          go_meet
          exact ⟨q, X', S', n', P', rfl, rfl, setRow_heap _ _ _ _ _ _ hqw, hto, hF.1, hn', hF.2, hq7, hSF, hz7⟩
      · obtain ⟨q, hq⟩ : ∃ q, w7.drew.heap.size = q := ⟨_, rfl⟩
        obtain ⟨wz, hwz⟩ : ∃ W, W = w7.drew.alloc (.cells z23 31) := ⟨_, rfl⟩
        have hzq : wz.heap[q]? = some (.cells z23 31 (0, 0)) := by rw [hwz, ← hq]; exact alloc_new w7.drew _
        have hqb : w.heap.size ≤ q := by rw [← hq]; exact Nat.le_trans HBV.out.size ((Below.refl w7.heap.size w7).drew).size
        have hq7 : w7.heap.size ≤ q := by rw [← hq]; exact ((Below.refl w7.heap.size w7).drew).size
        have hbz : Below w7.drew.heap.size w7.drew wz := by rw [hwz]; exact (Below.refl _ _).alloc (Nat.le_refl _) _
        have hS := HSB.out _ _ hS hbz
        have hBz : Below w7.heap.size w7 wz := ((Below.refl w7.heap.size w7).drew).trans (hbz.mono ((Below.refl w7.heap.size w7).drew).size)
        refine nop_value' 14 (v := .pointer (some ⟨q, 0, none⟩)) (w' := wz) rfl (by rfl) rfl (by rw [hwz, ← hq, HZ23.out]; go_simp) ?_
        clear hwz hq
        refine ⟨hS, ?_⟩
        simp only [List.setIfInBounds_toArray, List.set_cons_zero, List.set_cons_succ]
        refine nany_one 9 (by kernel_rfl) ?_
        refine nop_callE 52 (f := 24) (args := #[.string (strOfNums x.nm), n64 x.i]) (R := fun v w' => ∃ g, v = .slice (some ⟨g, 0, none⟩) 32 32 ∧ By w' (fun _ => True) (some ⟨g, 0, none⟩) (lineB x) ∧ Below wz.heap.size wz w') rfl (by rfl) rfl (by go_simp) ((HENC.out _).mono (fun e w' h => by obtain ⟨g, h1, _, h3, h4⟩ := h; exact ⟨_, h1, g, rfl, h3, h4⟩)) ?_
        rintro v we ⟨g, rfl, hy, hbe⟩
        have hS := HSB.out _ _ hS hbe
        have hBe : Below w7.heap.size w7 we := (hBz).trans (hbe.mono (hBz).size)
        refine ⟨hS, ?_⟩
        simp only [List.setIfInBounds_toArray, List.set_cons_zero, List.set_cons_succ]
        have hzq := (hbe.block q (Array.getElem?_eq_some_iff.1 hzq).1).trans hzq
        refine nany_one 10 (by kernel_rfl) ?_
        refine nop_callE 53 (f := 22) (args := #[ptrV pv, .agg X, .int .u64 ((p * 32 : Nat) : Int), .slice (some ⟨g, 0, none⟩) 32 32]) (R := fun v w' => ∃ X', v = .tuple #[.agg X', .nilIface] ∧ InoTo X X' SZ ptr' ∧ ∃ S' n' P', Dw w' pv S' N i base T bc n' P' c' ∧ n' ≤ n + 1000 ∧ Kp S we S' w') rfl (by rfl) rfl (by go_simp) ((HWR.out _ g hBe hy).mono (fun e w' h => by obtain ⟨X', h1, h2, h3⟩ := h; exact ⟨_, h1, X', rfl, h2, h3⟩)) ?_
        rintro v ww ⟨X', rfl, hto, S', n', P', hDw, hn', hK⟩
        have hB : Below w.heap.size w we := HBV.out.trans ((hBe).mono HBV.out.size)
        have hz7 : ∀ g, S' g → S g ∨ w7.heap.size ≤ g := fun g hg => (hK.1 g hg).imp id (fun h => Nat.le_trans (hBe).size h)
        have hSw := HSW.out _ _ _ hS hK
        refine ⟨hSw, ?_⟩
        simp only [List.setIfInBounds_toArray, List.set_cons_zero, List.set_cons_succ]
        refine nany_take 11 42 (.tuple #[.agg X', .nilIface]) rfl rfl (by kernel_rfl) (by kernel_rfl) (by kernel_rfl) (fun _ _ _ h => h) (Or.inl ⟨by rfl, ?_⟩) hSw ?_
        · rintro w' hS'
          go_simp
        simp only [List.setIfInBounds_toArray, List.set_cons_zero, List.set_cons_succ]
        refine nany_take 12 54 (.agg X') rfl rfl (by kernel_rfl) (by kernel_rfl) (by kernel_rfl) (fun _ _ _ h => h) (Or.inl ⟨by rfl, ?_⟩) hSw ?_
        · rintro w' hS'
          go_simp
        simp only [List.setIfInBounds_toArray, List.set_cons_zero, List.set_cons_succ]
        refine nany_take 13 55 (.nilIface) rfl rfl (by kernel_rfl) (by kernel_rfl) (by kernel_rfl) (fun _ _ _ h => h) (Or.inl ⟨by rfl, ?_⟩) hSw ?_
        · rintro w' hS'
          go_simp
        simp only [List.setIfInBounds_toArray, List.set_cons_zero, List.set_cons_succ]
        have hqw : ww.heap[q]? = some (.cells z23 31 (0, 0)) := (hK.block (Array.getElem?_eq_some_iff.1 hzq).1 (HNS.out q hqb)).trans hzq
        refine nany_one 15 (by kernel_rfl) ?_
        refine nop_skip (w' := ww.setRow q X') rfl (by rfl) rfl (ex_store 31 (.tmp 14) (.tmp 54) rfl (q) X' rfl rfl 31 z23 hqw (by rw [hto.is_.sz]; exact sizeIno) (by rw [hto.is_.sz]; exact HZI.out) hto.is_.one) ?_
        have hF := fin_add hB hK hDw (setRow_mods ww q X') (by exact hqb) (by exact fun e => by rcases hK.1 q e with h | h; exact HNS.out q hqb h; have := (Array.getElem?_eq_some_iff.1 hzq).1; omega) HT.out
        have hSF := HSQ.out _ q X' hSw hq7
        refine ⟨hSF, ?_⟩
        refine nany_take 16 12 (.nilIface) rfl rfl (by kernel_rfl) (by kernel_rfl) (by kernel_rfl) (fun _ _ _ h => h) (Or.inl ⟨by rfl, ?_⟩) hSF ?_
        · rintro w' hS'
          go_simp
        simp only [List.setIfInBounds_toArray, List.set_cons_zero, List.set_cons_succ]
        refine wpAnyH_done (by kernel_rfl) ?_ _
        go_wp2_with fail
        go_meet
        exact ⟨q, X', S', n', P', rfl, rfl, setRow_heap _ _ _ _ _ _ hqw, hto, hF.1, hn', hF.2, hq7, hSF, hz7⟩
    · obtain ⟨q, hq⟩ : ∃ q, w7.drew.heap.size = q := ⟨_, rfl⟩
      obtain ⟨wz, hwz⟩ : ∃ W, W = w7.drew.alloc (.cells z23 31) := ⟨_, rfl⟩
      have hzq : wz.heap[q]? = some (.cells z23 31 (0, 0)) := by rw [hwz, ← hq]; exact alloc_new w7.drew _
      have hqb : w.heap.size ≤ q := by rw [← hq]; exact Nat.le_trans HBV.out.size ((Below.refl w7.heap.size w7).drew).size
      have hq7 : w7.heap.size ≤ q := by rw [← hq]; exact ((Below.refl w7.heap.size w7).drew).size
      have hbz : Below w7.drew.heap.size w7.drew wz := by rw [hwz]; exact (Below.refl _ _).alloc (Nat.le_refl _) _
      have hS := HSB.out _ _ hS hbz
      have hBz : Below w7.heap.size w7 wz := ((Below.refl w7.heap.size w7).drew).trans (hbz.mono ((Below.refl w7.heap.size w7).drew).size)
      refine nop_value' 14 (v := .pointer (some ⟨q, 0, none⟩)) (w' := wz) rfl (by rfl) rfl (by rw [hwz, ← hq, HZ23.out]; go_simp) ?_
      clear hwz hq
      refine ⟨hS, ?_⟩
      simp only [List.setIfInBounds_toArray, List.set_cons_zero, List.set_cons_succ]
      refine nany_one 6 (by kernel_rfl) ?_
      refine nop_callE 49 (f := 23) (args := #[n64 p]) (R := fun v w' => v = .int .u64 ((p * 32 : Nat) : Int) ∧ w' = wz) rfl (by rfl) rfl (by go_simp) ((startOf_any _ p (by have := HP.out; omega)).mono (fun e w' h => ⟨_, h.1, rfl, h.2⟩)) ?_
      rintro v ws ⟨rfl, hws⟩
      rw [hws]
      clear hws ws
      refine ⟨hS, ?_⟩
      simp only [List.setIfInBounds_toArray, List.set_cons_zero, List.set_cons_succ]
      refine nany_one 9 (by kernel_rfl) ?_
      refine nop_callE 52 (f := 24) (args := #[.string (strOfNums x.nm), n64 x.i]) (R := fun v w' => ∃ g, v = .slice (some ⟨g, 0, none⟩) 32 32 ∧ By w' (fun _ => True) (some ⟨g, 0, none⟩) (lineB x) ∧ Below wz.heap.size wz w') rfl (by rfl) rfl (by go_simp) ((HENC.out _).mono (fun e w' h => by obtain ⟨g, h1, _, h3, h4⟩ := h; exact ⟨_, h1, g, rfl, h3, h4⟩)) ?_
      rintro v we ⟨g, rfl, hy, hbe⟩
      have hS := HSB.out _ _ hS hbe
      have hBe : Below w7.heap.size w7 we := (hBz).trans (hbe.mono (hBz).size)
      refine ⟨hS, ?_⟩
      simp only [List.setIfInBounds_toArray, List.set_cons_zero, List.set_cons_succ]
      have hzq := (hbe.block q (Array.getElem?_eq_some_iff.1 hzq).1).trans hzq
      refine nany_one 10 (by kernel_rfl) ?_
      refine nop_callE 53 (f := 22) (args := #[ptrV pv, .agg X, .int .u64 ((p * 32 : Nat) : Int), .slice (some ⟨g, 0, none⟩) 32 32]) (R := fun v w' => ∃ X', v = .tuple #[.agg X', .nilIface] ∧ InoTo X X' SZ ptr' ∧ ∃ S' n' P', Dw w' pv S' N i base T bc n' P' c' ∧ n' ≤ n + 1000 ∧ Kp S we S' w') rfl (by rfl) rfl (by go_simp) ((HWR.out _ g hBe hy).mono (fun e w' h => by obtain ⟨X', h1, h2, h3⟩ := h; exact ⟨_, h1, X', rfl, h2, h3⟩)) ?_
      rintro v ww ⟨X', rfl, hto, S', n', P', hDw, hn', hK⟩
      have hB : Below w.heap.size w we := HBV.out.trans ((hBe).mono HBV.out.size)
      have hz7 : ∀ g, S' g → S g ∨ w7.heap.size ≤ g := fun g hg => (hK.1 g hg).imp id (fun h => Nat.le_trans (hBe).size h)
      have hSw := HSW.out _ _ _ hS hK
      refine ⟨hSw, ?_⟩
      simp only [List.setIfInBounds_toArray, List.set_cons_zero, List.set_cons_succ]
      refine nany_take 11 42 (.tuple #[.agg X', .nilIface]) rfl rfl (by kernel_rfl) (by kernel_rfl) (by kernel_rfl) (fun _ _ _ h => h) (Or.inl ⟨by rfl, ?_⟩) hSw ?_
      · rintro w' hS'
        go_simp
      simp only [List.setIfInBounds_toArray, List.set_cons_zero, List.set_cons_succ]
      refine nany_take 12 54 (.agg X') rfl rfl (by kernel_rfl) (by kernel_rfl) (by kernel_rfl) (fun _ _ _ h => h) (Or.inl ⟨by rfl, ?_⟩) hSw ?_
      · rintro w' hS'
        go_simp
      simp only [List.setIfInBounds_toArray, List.set_cons_zero, List.set_cons_succ]
      refine nany_take 13 55 (.nilIface) rfl rfl (by kernel_rfl) (by kernel_rfl) (by kernel_rfl) (fun _ _ _ h => h) (Or.inl ⟨by rfl, ?_⟩) hSw ?_
      · rintro w' hS'
        go_simp
      simp only [List.setIfInBounds_toArray, List.set_cons_zero, List.set_cons_succ]
      have hqw : ww.heap[q]? = some (.cells z23 31 (0, 0)) := (hK.block (Array.getElem?_eq_some_iff.1 hzq).1 (HNS.out q hqb)).trans hzq
      refine nany_one 15 (by kernel_rfl) ?_
      refine nop_skip (w' := ww.setRow q X') rfl (by rfl) rfl (ex_store 31 (.tmp 14) (.tmp 54) rfl (q) X' rfl rfl 31 z23 hqw (by rw [hto.is_.sz]; exact sizeIno) (by rw [hto.is_.sz]; exact HZI.out) hto.is_.one) ?_
      have hF := fin_add hB hK hDw (setRow_mods ww q X') (by exact hqb) (by exact fun e => by rcases hK.1 q e with h | h; exact HNS.out q hqb h; have := (Array.getElem?_eq_some_iff.1 hzq).1; omega) HT.out
      have hSF := HSQ.out _ q X' hSw hq7
      refine ⟨hSF, ?_⟩
      refine nany_take 16 12 (.nilIface) rfl rfl (by kernel_rfl) (by kernel_rfl) (by kernel_rfl) (fun _ _ _ h => h) (Or.inl ⟨by rfl, ?_⟩) hSF ?_
      · rintro w' hS'
        go_simp
      simp only [List.setIfInBounds_toArray, List.set_cons_zero, List.set_cons_succ]
      refine wpAnyH_done (by kernel_rfl) ?_ _
      go_wp2_with fail
      go_meet
      exact ⟨q, X', S', n', P', rfl, rfl, setRow_heap _ _ _ _ _ _ hqw, hto, hF.1, hn', hF.2, hq7, hSF, hz7⟩
  case rest =>
    obtain ⟨q, X', S', n', P', rfl, rfl, hq, hto, hdw, hn', hk, hq7, hsq, hz7⟩ := hcut
    have HTO := hid hto
    have hb12 : b + 1 ≠ q := by have := HLT7.out; omega
    have HS12 : Hid (wc.drew.heap[q]? = some (.cells X' 31 (0, 0)) ∧ wc.drew.cell? ⟨t, 0, none⟩ = some (ptrV pa) ∧ wc.drew.cell? ⟨pa, 1, none⟩ = some (n64 p)) := hid ⟨hq, hsq.2.1, hsq.2.2.1⟩
    have HR12 : Hid (wc.drew.heap[b + 1]? = some (.cells z23 31 (0, 0))) := hid hsq.2.2.2
    have hne : t ≠ b + 1 ∧ pa ≠ b + 1 := HNE.out
    have HS13 : Hid ((wc.drew.setRow (b + 1) X').heap[q]? = some (.cells X' 31 (0, 0)) ∧ (wc.drew.setRow (b + 1) X').cell? ⟨t, 0, none⟩ = some (ptrV pa) ∧ (wc.drew.setRow (b + 1) X').cell? ⟨pa, 1, none⟩ = some (n64 p)) := hid ⟨(setRow_other _ _ _ _ (Ne.symm hb12)).trans hq, (World.cell?_of_block (setRow_other _ _ _ _ hne.1)).trans hsq.2.1, (World.cell?_of_block (setRow_other _ _ _ _ hne.2)).trans hsq.2.2.1⟩
    have hbw := HB.out
    have HEND := hid (fin_add (F := wc.drew.setRow (b + 1) X') (Below.refl _ w) hk hdw ((Mods.refl _ wc).drew.tr (setRow_mods wc.drew (b + 1) X')) (by omega) (fun e => by rcases hz7 _ e with h | h; exact HNS.out _ (by omega) h; have := HLT7.out; omega) HT.out)
    have HN' := hid hn'
    clear hq hto hdw hn' hk hq7 hsq hz7 hb12 hne hbw
    go_upto_region 12 with fail
    refine wp_region_held_drew (S := fun w' => w'.heap[q]? = some (.cells X' 31 (0, 0)) ∧ w'.cell? ⟨t, 0, none⟩ = some (ptrV pa) ∧ w'.cell? ⟨pa, 1, none⟩ = some (n64 p)) (by kernel_rfl) HS12.out (fun hS => ?_)
    refine nany_take 0 60 (.agg X') rfl rfl (by kernel_rfl) (by kernel_rfl) (by kernel_rfl) (fun _ _ _ h => h) (Or.inl ⟨by rfl, ?_⟩) hS ?_
    · rintro w' hS'
      exact ex_load 31 (.tmp 14) rfl q rfl 31 X' (0, 0) _ hS'.1 Tryz.underlying31 (by rw [HTO.out.is_.sz]; exact sizeIno)
    simp only [List.setIfInBounds_toArray, List.set_cons_zero, List.set_cons_succ]
    refine nany_take 1 61 (ptrV pa) rfl rfl (by kernel_rfl) (by kernel_rfl) (by kernel_rfl) (fun _ _ _ h => h) (Or.inl ⟨by rfl, ?_⟩) hS ?_
    · rintro w' hS'
      obtain ⟨_, x1, x2⟩ := hS'; go_simp
    simp only [List.setIfInBounds_toArray, List.set_cons_zero, List.set_cons_succ]
    refine nany_take 2 62 (ptrV pa) rfl rfl (by kernel_rfl) (by kernel_rfl) (by kernel_rfl) (fun _ _ _ h => h) (Or.inl ⟨by rfl, ?_⟩) hS ?_
    · rintro w' hS'
      obtain ⟨_, x1, x2⟩ := hS'; go_simp
    simp only [List.setIfInBounds_toArray, List.set_cons_zero, List.set_cons_succ]
    refine nany_take 3 63 (.pointer (some ⟨pa, 1, none⟩)) rfl rfl (by kernel_rfl) (by kernel_rfl) (by kernel_rfl) (fun _ _ _ h => h) (Or.inl ⟨by rfl, ?_⟩) hS ?_
    · rintro w' hS'
      obtain ⟨_, x1, x2⟩ := hS'; go_simp
    simp only [List.setIfInBounds_toArray, List.set_cons_zero, List.set_cons_succ]
    refine nany_take 4 64 (n64 p) rfl rfl (by kernel_rfl) (by kernel_rfl) (by kernel_rfl) (fun _ _ _ h => h) (Or.inl ⟨by rfl, ?_⟩) hS ?_
    · rintro w' hS'
      obtain ⟨_, x1, x2⟩ := hS'; go_simp
    simp only [List.setIfInBounds_toArray, List.set_cons_zero, List.set_cons_succ]
    refine nany_one 5 (by kernel_rfl) ?_
    refine nop_skip (w' := wc.drew.setRow (b + 1) X') rfl (by rfl) rfl (ex_store 31 (.tmp 8) (.tmp 60) rfl (b + 1) X' rfl rfl 31 z23 HR12.out (by rw [HTO.out.is_.sz]; exact sizeIno) (by rw [HTO.out.is_.sz]; exact HZI.out) HTO.out.is_.one) ?_
    refine ⟨HS13.out, ?_⟩
    refine nany_take 6 9 (n64 p) rfl rfl (by kernel_rfl) (by kernel_rfl) (by kernel_rfl) (fun _ _ _ h => h) (Or.inl ⟨by rfl, ?_⟩) HS13.out ?_
    · rintro w' hS'
      go_simp
    simp only [List.setIfInBounds_toArray, List.set_cons_zero, List.set_cons_succ]
    refine nany_take 7 10 (.nilIface) rfl rfl (by kernel_rfl) (by kernel_rfl) (by kernel_rfl) (fun _ _ _ h => h) (Or.inl ⟨by rfl, ?_⟩) HS13.out ?_
    · rintro w' hS'
      go_simp
    simp only [List.setIfInBounds_toArray, List.set_cons_zero, List.set_cons_succ]
    refine wpAnyH_done (by kernel_rfl) ?_ _
    go_wp2
    refine bodyPost_ret (results_ctt rfl _ _ (b + 1) X' _ _ rfl (setRow_heap _ _ _ _ _ _ HR12.out) Tryz.underlying31 (by rw [HTO.out.is_.sz]; exact sizeIno)) rfl ⟨X', c', hi', ptr', S', n', P', rfl, HTO.out, HRES.out.1, HRES.out.2.1, HRES.out.2.2.1, HRES.out.2.2.2.1, HRES.out.2.2.2.2, HEND.out.1, HN'.out, HEND.out.2⟩
end Go.Proofs.YtaplmlldmhdhoaaGreatDoor
