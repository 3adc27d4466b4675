/- IbD, IbE in one text. -/
import Derived.Test.YtaplmlldmhdhoaaGreatDoorIbC
import Derived.Deep.WholeRow
/- pointersOf, putPointers. -/
namespace Go.Proofs.YtaplmlldmhdhoaaGreatDoor
open Go.RowKit Go.Maps
set_option linter.unusedVariables false

def u64s (l : List Int) : List Value := l.map fun x => Value.int .u64 x
/-- The pointers of a block. -/
def ptrsL (l : List Int) : List Int := (List.range 128).map fun s => ((pAt l s : Nat) : Int)
theorem ptrsL_len (l : List Int) : (ptrsL l).length = 128 := by simp [ptrsL]
theorem ptrsL_at (l : List Int) {s : Nat} (h : s < 128) : (ptrsL l)[s]? = some ((pAt l s : Nat) : Int) := by simp [ptrsL, h]
def zeroP128 : Array Value := (List.replicate 128 (Value.int .u64 0)).toArray
set_option maxRecDepth 100000 in
theorem infoPs : (Tryz.prog.info? 211).map (fun i => (i.zero, i.size)) = some (some (.agg zeroP128), 128) := by kernel_rfl
theorem setRow_mods (w : World) (g : Nat) (cs : Array Value) : Mods (fun b => b = g) w (w.setRow g cs) := ⟨rfl, rfl, rfl, by simp, fun b _ hn => setRow_other w g b cs hn⟩
theorem results_ca {fn : Func} {t u : Tmp} {ty : TypeId} (h : fn.results = #[.cell t ty, .tmp u]) (tmps : Array Value) (w : World) (g : Nat) (cs : Array Value) (t' : TypeId) (m : Nat) (e : TypeId) (hp : tmps.getD t undef = .pointer (some ⟨g, 0, none⟩))
    (hg : w.heap[g]? = some (.cells cs t' (0, 0))) (hu : Tryz.prog.underlying ty = some (.array m e)) (hi : (Tryz.prog.info? ty).map (·.size) = some cs.size) :
    (results fn tmps).run Tryz.prog w = .ok (.tuple #[.agg cs, tmps.getD u undef]) w := by
  have hl := run_loadVar_row (P := Tryz.prog) w g t' ty cs (0, 0) _ hg hu rfl hi
  have hp' : tmps[t]?.getD undef = .pointer (some ⟨g, 0, none⟩) := by simpa using hp
  simp [results, h, hp', asAddr, hl]
theorem pAt_bd (l : List Int) (s : Nat) (h : ∀ y ∈ l, IsB y) : rdN l (s * 4) 4 = ((pAt l s : Nat) : Int) ∧ pAt l s < 4294967296 := by
  have hbd := rdN_bd l (s * 4) 4 h (by decide)
  unfold pAt
  exact ⟨by omega, by omega⟩
theorem arr_ext128 {cs : Array Value} {L : List Int} (h1 : cs.size = 128) (h2 : L.length = 128) (h : ∀ s, s < 128 → cs[s]? = (u64s L)[s]?) : cs = (u64s L).toArray := by
  apply Array.ext_getElem?
  intro s
  by_cases hs : s < 128
  · rw [h s hs]; simp
  · rw [Array.getElem?_eq_none (by omega), Array.getElem?_eq_none (by simp [u64s]; omega)]
set_option maxRecDepth 100000 in
set_option maxHeartbeats 4000000 in
theorem pointersOf_any {w : World} {pd n N : Nat} {S T : Nat → Prop} {i : Int} {base : Value} {P : Int → Option (List Int)} {bc c : Nat → List Int} (hD : Dw w pd S N i base T bc n P c) (b : Nat) (hb : b < N) :
    Calls Tryz.prog 106 #[ptrV pd, n64 b] w fun e w' => e = .returned (.tuple #[.agg (u64s (ptrsL (c b))).toArray, .nilIface]) ∧ Below w.heap.size w w' := by
  obtain ⟨hz, hsz⟩ := zero_of_info infoPs
  obtain ⟨z, hzz⟩ : ∃ z, z = zeroP128 := ⟨_, rfl⟩
  have hz128 : z.size = 128 := by rw [hzz]; simp [zeroP128]
  rw [← hzz] at hz
  have HSZ := hid hsz
  have HZ := hid hz128
  obtain ⟨W1, hW1⟩ : ∃ W, W = w.alloc (.cells z 211) := ⟨_, rfl⟩
  have hb1 : Below w.heap.size w W1 := by rw [hW1]; exact (Below.refl _ _).alloc (Nat.le_refl _) _
  have h1 : W1.heap[w.heap.size]? = some (.cells z 211 (0, 0)) := by rw [hW1]; exact alloc_new w _
  have HG := hid ((hD.later hb1).Get b hb)
  have HI := hid (hD.isB b hb)
  have HL := hid (hD.len b hb)
  have HB1 := hid hb1
  have H1 := hid h1
  obtain ⟨l, hl⟩ : ∃ l, c b = l := ⟨_, rfl⟩
  rw [hl] at HG HI HL ⊢
  clear hD hb1 h1 hzz hsz hz128 hl
  go_enter Tryz.func106, Tryz.ntmps106
  go_wp2_with (first | (rw [← hW1]; clear hW1))
  refine HG.out.mono ?_
  rintro e w2 ⟨g2, c2, rfl, ho2, hb2⟩
  obtain ⟨W3, hW3⟩ : ∃ W, W = w2.alloc (.cells z 211) := ⟨_, rfl⟩
  have hb3 : Below w2.heap.size w2 W3 := by rw [hW3]; exact (Below.refl _ _).alloc (Nat.le_refl _) _
  have h3 : W3.heap[w2.heap.size]? = some (.cells z 211 (0, 0)) := by rw [hW3]; exact alloc_new w2 _
  obtain ⟨gl, hgl⟩ : ∃ gl, gl = w2.heap.size := ⟨_, rfl⟩
  have H3 := hid h3
  rw [← hgl] at H3
  obtain ⟨a', c', ea', hc', _, hy⟩ := By.of_owns (S := fun g => g = g2) ho2 HI.out (fun g hg => by simpa [Value.ownBlock] using hg.symm)
  simp only [Value.slice.injEq, true_and] at ea'
  obtain ⟨rfl, rfl⟩ := ea'
  have hg2 := (owns_lt ho2 (g := g2) rfl).1
  have HY3 := hid (hy.later hb3)
  have hr3 := (hb3.block _ (Nat.lt_of_lt_of_le (Array.getElem?_eq_some_iff.1 H1.out).1 hb2.size)).trans ((hb2.block _ (Array.getElem?_eq_some_iff.1 H1.out).1).trans H1.out)
  have HR3 := hid hr3
  have HB3 : Hid (Below w.heap.size w W3) := hid (HB1.out.trans ((hb2.trans (hb3.mono hb2.size)).mono HB1.out.size))
  have HNE : Hid (g2 ≠ gl ∧ w.heap.size ≠ gl ∧ w.heap.size ≤ gl) := hid ⟨by omega, by have := (Array.getElem?_eq_some_iff.1 H1.out).1; have := hb2.size; omega, by have := (Array.getElem?_eq_some_iff.1 H1.out).1; have := hb2.size; omega⟩
  have hgl' := hgl.symm
  clear HG ho2 hb2 hb3 h3 hy hr3 hgl hg2
  go_wp2_with (first | (rw [← hW3]; clear hW3))
  clear hgl'
  go_loopw [20] (fun zz wr => ∃ (j : Nat) (cs : Array Value), j ≤ 128 ∧ zz = n64 j ∧ wr.heap[gl]? = some (.cells cs 211 (0, 0)) ∧ cs.size = 128 ∧ (∀ s, s < j → cs[s]? = some (.int .u64 ((pAt l s : Nat) : Int))) ∧ Mods (fun g => g = gl) W3 wr) (fun zz _ => 128 - (RowKit.intOf zz).toNat)
  case atStart => exact ⟨0, z, by omega, rfl, H3.out, HZ.out, fun s hs => by omega, Mods.refl _ _⟩
  case round =>
    obtain ⟨j, cs, hj, rfl, hh, hcs, hel, hm⟩ := hrel
    rename World => V
    have HH := hid hh
    have HCS := hid hcs
    have HEL := hid hel
    have HM := hid hm
    by_cases hlt : j < 128
    · have hlt' : (j : Int) < 128 := by omega
      have e3 : IntKind.i64.wrap ((j : Int) * 4) = ((j * 4 : Nat) : Int) := by rw [IntWalk.i64_in _ (by omega)]; omega
      have hyV := HY3.out.keep (w' := V) (fun g hg hl => hm.block g hl (by have := HNE.out.1; omega))
      have HLE := le_at V (some ⟨g2, 0, none⟩) 512 c2 (j * 4) 4 ((j * 4 : Nat) : Int) 4 l rfl rfl HL.out hc' (by decide) (.inl rfl) (by omega) hyV.bytes
      rw [(pAt_bd l j HI.out).1] at HLE
      replace HLE := hid HLE
      obtain ⟨L, hL⟩ : ∃ L, pAt l j = L := ⟨_, rfl⟩
      rw [hL] at HLE
      have HLL := hid hL
      obtain ⟨v0, hv0⟩ : ∃ v, cs[j]? = some v := ⟨_, Array.getElem?_eq_getElem (by omega)⟩
      have k0 : V.cell? ⟨gl, j, none⟩ = some v0 := cell_of hh hv0
      have kf := froz_of hh j
      have hw2 : IntKind.i64.wrap ((j : Int) + 1) = ((j + 1 : Nat) : Int) := by rw [IntWalk.i64_in _ (by omega)]; omega
      clear hj hh hcs hel hm hyV hL hv0
      go_wp2_with fail
      refine HLE.out.mono ?_
      rintro e w5 ⟨rfl, q5, hw5⟩
      subst hw5
      clear HLE
      go_wp2
      go_roundw
      case rel =>
        refine ⟨j + 1, cs.setIfInBounds j (.int .u64 ((L : Nat) : Int)), by omega, by first | rfl | go_num, setc (w := V.drewN q5) HH.out j _, by simpa using HCS.out, fun s hs => ?_, (HM.out.below (below_drewN (Below.refl _ _) q5)).setCell gl j _ rfl⟩
        by_cases e : s = j
        · subst e
          rw [Array.getElem?_setIfInBounds_self_of_lt (by have := HCS.out; omega), HLL.out]
        · rw [Array.getElem?_setIfInBounds_ne (by omega)]
          exact HEL.out s (by omega)
      case measure => simp [RowKit.intOf]; omega
    · have hlt' : ¬ (j : Int) < 128 := by omega
      obtain rfl : j = 128 := by omega
      obtain rfl : cs = (u64s (ptrsL l)).toArray := arr_ext128 hcs (ptrsL_len l) (fun s hs => by rw [HEL.out s hs]; simp [u64s, ptrsL_at l hs])
      obtain ⟨X, hX⟩ : ∃ X, X = (u64s (ptrsL l)).toArray := ⟨_, rfl⟩
      have hall : X.all (·.oneCell') = true := by rw [hX]; simp [u64s, Value.oneCell']
      rw [← hX] at HH HCS
      have HX := hid hX
      have hrV := (hm.block _ (Array.getElem?_eq_some_iff.1 HR3.out).1 HNE.out.2.1).trans HR3.out
      have HRV := hid hrV
      have HALL := hid hall
      clear hh hcs hel hm hj hX hrV hall hz
      go_wp2_with (first | (refine wpList_load_row rfl 211 _ rfl gl rfl 211 X (0, 0) _ HH.out Tryz.underlying211 rfl (by rw [HCS.out]; exact HSZ.out) ?_) | (refine wpList_store_row rfl 211 _ _ rfl w.heap.size X rfl rfl 211 z HRV.out (by rw [HCS.out]; exact HSZ.out) (by rw [HCS.out]; exact HZ.out) HALL.out ?_))
      rw [← HX.out]
      refine bodyPost_ret (results_ca rfl _ _ _ X _ _ _ rfl (setRow_heap V _ z X _ _ HRV.out) Tryz.underlying211 (by rw [HCS.out]; exact HSZ.out)) rfl ⟨rfl, ?_⟩
      have hm1 : Mods (fun b => b = gl ∨ b = w.heap.size) W3 V := HM.out.weak (fun b hb => .inl (.inl hb))
      have hm2 : Mods (fun b => b = gl ∨ b = w.heap.size) V (V.setRow w.heap.size X) := (setRow_mods V w.heap.size X).weak (fun b hb => .inl (.inr hb))
      exact (hm1.tr hm2).to_below HB3.out HB3.out.size (fun b hb => by have := HNE.out.2.2; omega)
end Go.Proofs.YtaplmlldmhdhoaaGreatDoor

/- putPointers, point. -/
namespace Go.Proofs.YtaplmlldmhdhoaaGreatDoor
open Go.RowKit Go.Maps
set_option linter.unusedVariables false

/-- A block of pointers. -/
def encPs (L : List Int) : List Int := outLe [] 4 L
theorem encPs_len {L : List Int} (h : L.length = 128) : (encPs L).length = 512 := by unfold encPs; rw [outLe_len, h]; rfl
theorem encPs_isB (L : List Int) : ∀ y ∈ encPs L, IsB y := fun y hy => by
  unfold encPs outLe at hy
  simp only [List.nil_append, List.mem_flatMap] at hy
  obtain ⟨x, _, hx⟩ := hy
  exact bytesLe_isB 4 x y hx
theorem flat_cut (L : List Int) : ∀ s : Nat, s < L.length → ((L.flatMap (bytesLe 4)).drop (s * 4)).take 4 = bytesLe 4 (L.getD s 0) := by
  induction L with
  | nil => intro s h; simp at h
  | cons x L ih =>
    intro s h
    rw [List.flatMap_cons]
    have hl : (bytesLe 4 x).length = 4 := by simp [bytesLe]
    cases s with
    | zero =>
      rw [Nat.zero_mul, List.drop_zero, List.take_append_of_le_length (by omega), List.take_of_length_le (by omega)]
      rfl
    | succ s =>
      rw [List.drop_append, List.drop_of_length_le (by omega), List.nil_append, hl, show (s + 1) * 4 - 4 = s * 4 by omega, ih s (by simpa using h)]
      rfl
theorem pAt_enc {L : List Int} (hw : ∀ x ∈ L, 0 ≤ x ∧ x < 4294967296) {s : Nat} (hs : s < L.length) : pAt (encPs L) s = (L.getD s 0).toNat := by
  unfold pAt rdN encPs outLe
  rw [List.nil_append, flat_cut L s hs, leOf_bytes]
  have h := mem_getD L (fun x => 0 ≤ x ∧ x < 4294967296) hw s hs
  rw [Int.emod_eq_of_lt h.1 (by omega)]
set_option maxRecDepth 100000 in
set_option maxHeartbeats 4000000 in
theorem putPointers_any {w : World} {pd n N : Nat} {S T : Nat → Prop} {i : Int} {base : Value} {P : Int → Option (List Int)} {bc c : Nat → List Int} (hD : Dw w pd S N i base T bc n P c) (hn : n < 900000) (b : Nat) (hb : b < N) (L : List Int) (hL : L.length = 128) (hw : ∀ x ∈ L, 0 ≤ x ∧ x < 4294967296) :
    Calls Tryz.prog 107 #[ptrV pd, n64 b, .agg (u64s L).toArray] w fun e w' => e = .returned .nilIface ∧ ∃ S', Dw w' pd S' N i base T bc (n + 1) (upd P (b : Int) (some (encPs L))) (updN c b (encPs L)) ∧ Kp S w S' w' := by
  obtain ⟨X, hX⟩ : ∃ X, X = (u64s L).toArray := ⟨_, rfl⟩
  have hXs : X.size = 128 := by rw [hX]; simp [u64s, hL]
  obtain ⟨W1, hW1⟩ : ∃ W, W = w.alloc (.cells X 211) := ⟨_, rfl⟩
  have hb1 : Below w.heap.size w W1 := by rw [hW1]; exact (Below.refl _ _).alloc (Nat.le_refl _) _
  have h1 : W1.heap[w.heap.size]? = some (.cells X 211 (0, 0)) := by rw [hW1]; exact alloc_new w _
  have hWd : Words W1 (some ⟨w.heap.size, 0, none⟩) L := fun j hj => ⟨w.heap.size, 0, rfl, by
    rw [Nat.zero_add]
    refine cell_of h1 ?_
    rw [hX]
    simp [u64s, List.getD, hj], by have h := mem_getD L (fun x => 0 ≤ x ∧ x < 4294967296) hw j hj; unfold IsW; omega⟩
  have hfit : fitsB ((4 : Nat) : Int) L = true := by
    unfold fitsB
    rw [List.all_eq_true]
    intro x hx
    have h := hw x hx
    unfold fitB
    have : x / 256 ^ ((4 : Nat) : Int).toNat = 0 := Int.ediv_eq_zero_of_lt h.1 (by simpa using h.2)
    rw [this]; rfl
  have HP := putLe_yes none (some ⟨w.heap.size, 0, none⟩) 0 128 4 [] L W1 (by simp) (by omega) (Bytes.nil_ _ _) hWd (by rfl) (by decide) hfit
  rw [hL] at HP
  replace HP : Hid (Calls Tryz.prog 70 #[.slice none 0 0, .int .i64 4, .slice (some ⟨w.heap.size, 0, none⟩) 128 128] W1 fun e w' => e = .returned (.tuple #[.slice (some ⟨W1.heap.size, 0, none⟩) 512 512, .int .i64 0]) ∧ Below W1.heap.size W1 w' ∧ w'.heap.size = W1.heap.size + 1 ∧ w'.rowIs W1.heap.size 5 512 (fun i => .int .u8 ((encPs L).getD i 0))) := hid HP
  have HPU := hid (fun (W : World) (hbW : Below W1.heap.size W1 W) (hr : W.rowIs W1.heap.size 5 512 (fun i => .int .u8 ((encPs L).getD i 0))) => show Calls Tryz.prog 84 #[ptrV pd, n64 b, .slice (some ⟨W1.heap.size, 0, none⟩) 512 512] W (fun e w' => e = .returned .nilIface ∧ ∃ S', Dw w' pd S' N i base T bc (n + 1) (upd P (b : Int) (some (encPs L))) (updN c b (encPs L)) ∧ Kp S W S' w') from
    ((hD.later hb1).later hbW).Put hn b hb (fun _ => True) (encPs L) (encPs_len hL) _ _ (By.of_row hr trivial (encPs_isB L) (by rw [encPs_len hL]; omega)))
  have HB1 := hid hb1
  rw [← hX]
  clear hD hb1 h1 hWd hfit hX hw
  go_enter Tryz.func107, Tryz.ntmps107
  go_wp2_with (first | (rw [← hW1]; clear hW1))
  refine HP.out.mono ?_
  rintro e w2 ⟨rfl, hb2, _, hr2⟩
  have HPU2 := hid (HPU.out w2 hb2 hr2)
  have HB2 : Hid (Below w.heap.size w w2) := hid (HB1.out.trans (hb2.mono HB1.out.size))
  clear hb2 hr2 HP HPU hL
  go_wp2_with fail
  refine HPU2.out.mono ?_
  rintro e w3 ⟨rfl, S', hd3, hk3⟩
  have HD3 := hid hd3
  have HK3 := hid hk3
  clear hd3 hk3 HPU2
  go_wp2
  go_ret
  exact ⟨rfl, S', HD3.out, (Kp.below HB2.out).trans HK3.out⟩
end Go.Proofs.YtaplmlldmhdhoaaGreatDoor
