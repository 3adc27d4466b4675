/- What every law knows of calls. -/
import Derived.Test.YtbfdkbdjipiliaaDoorYiG
namespace Go.Proofs.YtbfdkbdjipiliaaDoor
open Go.RowKit Go.Maps
set_option linter.unusedVariables false

def kC (p : Int) : Ca := ⟨5, p, 3, 1, Cr0, [1, 2, 3, 4]⟩
theorem kC_ok (p : Int) (h : IsU p) : (kC p).ok := ⟨by unfold kC IsU; simp, h, by unfold kC IsU; simp, by unfold kC IsU; simp, by unfold kC Cr0 IsU; simp, by unfold kC Cr0 IsU; simp, fun x hx => by unfold kC Cr0 at hx; simp at hx⟩
theorem kC_len (p : Int) : (callL (kC p)).length = 64 := by
  have h := sysL_len Cr0
  unfold callL kC
  simp only [List.length_append, nuL_len, fuL_len, len_be, h]
  simp [Cr0, pad4]
theorem kC_3 : parseP (callL (kC 100003)) = (kC 100003, 0, []) := by
  rw [parse_call _ (kC_ok _ (by unfold IsU; omega))]
  decide
theorem kC_7 : parseP (callL (kC 7)) = (Ca0, 34, [0, 0, 0, 5, 0, 0, 0, 1, 0, 0, 0, 0, 0, 0, 0, 0, 0, 0, 0, 0, 0, 0, 0, 1]) := by
  rw [parse_call _ (kC_ok _ (by unfold IsU; omega))]
  decide
abbrev kR (p : Int) (g : Nat) : Array Value := caC 5 p 3 1 0 0 nilS (.slice (some ⟨g, 0, none⟩) 4 4)
set_option maxRecDepth 100000 in
set_option maxHeartbeats 8000000 in
theorem known17 (w : World) (hG : Gl w) : Calls Tryd.prog 6 #[] w fun e w' => e = .returned (.bool true) ∧ Below w.heap.size w w' := by
  obtain ⟨gb, hgb⟩ : ∃ g, w.heap.size = g := ⟨_, rfl⟩
  obtain ⟨W1, hW1⟩ : ∃ W, W = w.alloc (.cells #[.int .u8 1, .int .u8 2, .int .u8 3, .int .u8 4] 5) := ⟨_, rfl⟩
  obtain ⟨g1, hg1⟩ : ∃ g, W1.heap.size = g := ⟨_, rfl⟩
  obtain ⟨W2, hW2⟩ : ∃ W, W = W1.alloc (.cells (caC 0 0 0 0 0 0 nilS nilS) 46) := ⟨_, rfl⟩
  obtain ⟨W3, hW3⟩ : ∃ W, W = W2.setRow g1 (kR 100003 gb) := ⟨_, rfl⟩
  have b1 : Below w.heap.size w W1 := by rw [hW1]; exact below_alloc (Below.refl _ _) (Nat.le_refl _) _
  have b2 : Below w.heap.size w W2 := by rw [hW2]; exact below_alloc b1 b1.size _
  have z1 : W1.heap[gb]? = some (.cells #[.int .u8 1, .int .u8 2, .int .u8 3, .int .u8 4] 5 (0, 0)) := by rw [hW1, ← hgb]; exact alloc_new w _
  have z2 : W2.heap[g1]? = some (.cells (caC 0 0 0 0 0 0 nilS nilS) 46 (0, 0)) := by rw [hW2, ← hg1]; exact alloc_new W1 _
  have z3 : W3.heap[g1]? = some (.cells (kR 100003 gb) 46 (0, 0)) := by rw [hW3]; exact setRow_heap _ g1 _ _ _ _ z2
  have q3 : Mods (fun b => b = g1) W2 W3 := by rw [hW3]; exact setRow_mods _ _ _
  have hlt : gb < g1 := by rw [← hg1]; exact (Array.getElem?_eq_some_iff.1 z1).1
  have b3 : Below w.heap.size w W3 := q3.to_below b2 b2.size (fun b hb => by have h : b = g1 := hb; omega)
  have y3 : W3.heap[gb]? = some (.cells #[.int .u8 1, .int .u8 2, .int .u8 3, .int .u8 4] 5 (0, 0)) := by
    have h12 : W2.heap[gb]? = W1.heap[gb]? := by rw [hW2]; exact (below_alloc (Below.refl _ _) (Nat.le_refl _) _).block gb (by rw [hg1]; exact hlt)
    rw [q3.block gb (by rw [hW2]; simp; omega) (by omega), h12]; exact z1
  have hby : Bytes W3 (some ⟨gb, 0, none⟩) [1, 2, 3, 4] := Bytes.mk_ (by simp [IsB]) (fun i hi => by
    have hi4 : i < 4 := hi
    rw [Nat.zero_add]
    refine cell_of y3 ?_
    rcases i with _ | _ | _ | _ | i
    · rfl
    · rfl
    · rfl
    · rfl
    · omega)
  have HWR := hid (fun (W : World) (p : Int) (hp : IsU p) (hb : Below W3.heap.size W3 W ∨ Mods (fun b => b = g1) W3 W) (hB : Bytes W (some ⟨gb, 0, none⟩) [1, 2, 3, 4]) => Write_any W (kC p) (kC_ok p hp) none 0 0 (some ⟨gb, 0, none⟩) 4 4 rfl (Nat.le_refl _) (by unfold maxLen; omega) (fun i hi => by simp [kC, Cr0] at hi) rfl hB (by omega) 64 (kC_len p))
  have HPR := hid (fun (W : World) (hg : Gl W) (a : Option Addr) (c : Nat) (hc : 64 ≤ c) (p : Int) (hb : Bytes W a (callL (kC p))) => Parse_any W hg a 64 c (callL (kC p)) (kC_len p) hc (by omega) hb)
  have HZ2 := hid z2
  have HZ3 := hid z3
  have HB3 := hid b3
  have HBY := hid hby
  have HGL := hid (hG.later b3)
  have HG0 := hid hG
  have HY3 := hid y3
  have HLT := hid hlt
  have HG1 : Hid (w.heap.size ≤ g1) := hid (by omega)
  have hstr : strOfNums [1, 2, 3, 4] = { data := #[1, 2, 3, 4] } := by decide
  have hstr2 : strOfNums [0, 0, 0, 5, 0, 0, 0, 1, 0, 0, 0, 0, 0, 0, 0, 0, 0, 0, 0, 0, 0, 0, 0, 1] = { data := #[0, 0, 0, 5, 0, 0, 0, 1, 0, 0, 0, 0, 0, 0, 0, 0, 0, 0, 0, 0, 0, 0, 0, 1] } := by decide
  have HS1 := hid hstr
  have HS2 := hid hstr2
  have hW1' := hW1.symm
  have hW2' := hW2.symm
  have hW3' := hW3.symm
  clear hG b1 b2 z1 z2 z3 q3 hlt b3 y3 hby hW1 hW2 hW3 hstr hstr2
  go_enter Tryd.func6, Tryd.ntmps6
  go_upto_region 6 with (first
    | ((try rw [hW1']); (try rw [hW2']); refine wpList_store_row rfl 46 _ _ rfl g1 (kR 100003 gb) rfl rfl 46 _ HZ2.out sizeCall rfl (caC_one _ _ _ _ _ _ _ _ _ _ _ _) ?_; (try rw [hW3']))
    | (refine wpList_load_row rfl 46 _ rfl g1 rfl 46 _ (0, 0) _ HZ3.out Tryd.underlying46 rfl sizeCall ?_)
    | (go_at_call 13
       refine (HWR.out W3 100003 (by unfold IsU; omega) (.inl (Below.refl _ _)) HBY.out).mono ?_
       rintro e w4 ⟨a4, c4, rfl, hy4, hc4, hb4⟩
       have HP1 := hid (HPR.out w4 (HGL.out.later hb4) a4 c4 hc4 100003 hy4.bytes)
       have HB4 := hid hb4
       clear hy4 hb4 HWR)
    | (go_at_call 12
       refine HP1.out.mono ?_
       rintro e w5 ⟨hb5, hok, _⟩
       rw [kC_3] at hok
       obtain ⟨ag, ng, cg, ab, nb, cb, rfl, _, _, _, hyb, hnb, _⟩ := hok rfl
       have hnb4 : 4 = nb := hnb
       subst hnb4
       have b35 := HB4.out.trans (hb5.mono HB4.out.size)
       obtain ⟨g2, hg2⟩ : ∃ g, w5.heap.size = g := ⟨_, rfl⟩
       obtain ⟨W6, hW6⟩ : ∃ W, W = w5.alloc (.cells (caC 0 0 0 0 0 0 nilS nilS) 46) := ⟨_, rfl⟩
       obtain ⟨W7, hW7⟩ : ∃ W, W = W6.setRow g2 (caC 5 100003 3 1 0 0 (.slice ag ng cg) (.slice ab 4 cb)) := ⟨_, rfl⟩
       have b6 : Below w5.heap.size w5 W6 := by rw [hW6]; exact below_alloc (Below.refl _ _) (Nat.le_refl _) _
       have z6 : W6.heap[g2]? = some (.cells (caC 0 0 0 0 0 0 nilS nilS) 46 (0, 0)) := by rw [hW6, ← hg2]; exact alloc_new w5 _
       have z7 : W7.heap[g2]? = some (.cells (caC 5 100003 3 1 0 0 (.slice ag ng cg) (.slice ab 4 cb)) 46 (0, 0)) := by rw [hW7]; exact setRow_heap _ g2 _ _ _ _ z6
       have q7 : Mods (fun b => b = g2) W6 W7 := by rw [hW7]; exact setRow_mods _ _ _
       have b7 : Below w5.heap.size w5 W7 := q7.to_below b6 b6.size (fun b hb => by have h : b = g2 := hb; omega)
       have b37 := b35.trans (b7.mono b35.size)
       have z17 := (b37.block g1 (Array.getElem?_eq_some_iff.1 HZ3.out).1).trans HZ3.out
       obtain ⟨W8, hW8⟩ : ∃ W, W = W7.setCell ⟨g1, 1, none⟩ (.int .u32 7) := ⟨_, rfl⟩
       have f1 := froz_of z17 1
       have y1 := cell_of z17 (i := 1) (v := .int .u32 100003) rfl
       have z8 : W8.heap[g1]? = some (.cells (kR 7 gb) 46 (0, 0)) := by rw [hW8]; exact setc z17 1 _
       have q8 : Mods (fun b => b = g1) W7 W8 := by rw [hW8]; exact (Mods.refl _ _).setCell g1 1 _ rfl
       have hg12 : g1 < g2 := by rw [← hg2]; have := (Array.getElem?_eq_some_iff.1 HZ3.out).1; have := b35.size; omega
       have z28 := (q8.block g2 (Array.getElem?_eq_some_iff.1 z7).1 (by omega)).trans z7
       have hyb7 := hyb.later b7
       have hyb8 := (hyb7.off z17 (by decide)).side q8 (fun b hb _ e => hb.2 e)
       have b08 := q8.to_below (HB3.out.trans (b37.mono HB3.out.size)) (by have := HB3.out.size; have := b37.size; omega) (fun b hb => by have h : b = g1 := hb; have := HG1.out; omega)
       have hY8 : W8.heap[gb]? = some (.cells #[.int .u8 1, .int .u8 2, .int .u8 3, .int .u8 4] 5 (0, 0)) := (q8.block gb (by have := (Array.getElem?_eq_some_iff.1 HY3.out).1; have := b37.size; omega) (by have := HLT.out; omega)).trans ((b37.block gb (Array.getElem?_eq_some_iff.1 HY3.out).1).trans HY3.out)
       have HBY8 : Hid (Bytes W8 (some ⟨gb, 0, none⟩) [1, 2, 3, 4]) := hid (fun i hi => by
         obtain ⟨b', o', e1, h1, h2⟩ := HBY.out i hi
         cases e1
         refine ⟨gb, 0, rfl, ?_, h2⟩
         simp only [World.cell?] at h1 ⊢
         rw [hY8]; rw [HY3.out] at h1; exact h1)
       have HZ6 := hid z6
       have HZ7 := hid z7
       have HZ8 := hid z8
       have HZ28 := hid z28
       have HYB := hid hyb8.bytes
       have HB8 := hid b08
       have hW6' := hW6.symm
       have hW7' := hW7.symm
       have hW8' := hW8.symm
       clear hb5 hok hyb hnb b35 b6 z6 z7 q7 b7 b37 z17 z8 q8 hg12 z28 hyb7 hyb8 b08 hY8 hW6 hW7 hW8 HP1)
    | ((try rw [hW6']); refine wpList_store_row rfl 46 _ _ rfl g2 (caC 5 100003 3 1 0 0 (.slice ag ng cg) (.slice ab 4 cb)) rfl rfl 46 _ HZ6.out sizeCall rfl (caC_one _ _ _ _ _ _ _ _ _ _ _ _) ?_; (try rw [hW7']))
    | ((try rw [hW8']); refine wpList_load_row rfl 46 _ rfl g1 rfl 46 _ (0, 0) _ HZ8.out Tryd.underlying46 rfl sizeCall ?_)
    | (go_at_call 13
       refine (Write_any W8 (kC 7) (kC_ok 7 (by unfold IsU; omega)) none 0 0 (some ⟨gb, 0, none⟩) 4 4 rfl (Nat.le_refl _) (by unfold maxLen; omega) (fun i hi => by simp [kC, Cr0] at hi) rfl HBY8.out (by omega) 64 (kC_len 7)).mono ?_
       rintro e w9 ⟨a9, c9, rfl, hy9, hc9, hb9⟩
       have hW9 := HB8.out.trans (hb9.mono HB8.out.size)
       have HP2 := hid (HPR.out w9 (HG0.out.later hW9) a9 c9 hc9 7 hy9.bytes)
       have HB9 := hid hb9
       clear hy9 hb9 hW9)
    | (go_at_call 12
       refine HP2.out.mono ?_
       rintro e w10 ⟨hb10, _, hno⟩
       rw [kC_7] at hno
       obtain ⟨gw, rfl, hwr⟩ := hno (by decide)
       have b810 := HB9.out.trans (hb10.mono HB9.out.size)
       obtain ⟨g4, hg4⟩ : ∃ g, w10.heap.size = g := ⟨_, rfl⟩
       obtain ⟨W11, hW11⟩ : ∃ W, W = w10.alloc (.cells (caC 0 0 0 0 0 0 nilS nilS) 46) := ⟨_, rfl⟩
       obtain ⟨W12, hW12⟩ : ∃ W, W = W11.setRow g4 (caC 0 0 0 0 0 0 nilS nilS) := ⟨_, rfl⟩
       obtain ⟨t6, ht6⟩ : ∃ g, W12.heap.size = g := ⟨_, rfl⟩
       obtain ⟨W13, hW13⟩ : ∃ W, W = W12.alloc (.cells #[.pointer none] 52) := ⟨_, rfl⟩
       have b11 : Below w10.heap.size w10 W11 := by rw [hW11]; exact below_alloc (Below.refl _ _) (Nat.le_refl _) _
       have z11 : W11.heap[g4]? = some (.cells (caC 0 0 0 0 0 0 nilS nilS) 46 (0, 0)) := by rw [hW11, ← hg4]; exact alloc_new w10 _
       have q12 : Mods (fun b => b = g4) W11 W12 := by rw [hW12]; exact setRow_mods _ _ _
       have b12 : Below w10.heap.size w10 W12 := q12.to_below b11 b11.size (fun b hb => by have h : b = g4 := hb; omega)
       have b13 : Below w10.heap.size w10 W13 := by rw [hW13]; exact below_alloc b12 b12.size _
       have z13 : W13.heap[t6]? = some (.cells #[.pointer none] 52 (0, 0)) := by rw [hW13, ← ht6]; exact alloc_new W12 _
       have b813 := b810.trans (b13.mono b810.size)
       have HWR13 := hid ((hwr.later b13))
       have hz213 := (b813.block g2 (Array.getElem?_eq_some_iff.1 HZ28.out).1).trans HZ28.out
       have HB13 := hid (HB8.out.trans (b813.mono HB8.out.size))
       have HAS := hid (As_wrong gw t6 (.pointer none) W13 (HG0.out.later (HB8.out.trans (b813.mono HB8.out.size))) (cell_of z13 (i := 0) rfl) (froz_of z13 0))
       have HCV := hid (conv0 (HYB.out.later b813) (k := 4) (cap := cb) rfl)
       have x0 := cell_of hz213 (i := 0) (v := .int .u32 5) rfl
       have x3 := cell_of hz213 (i := 3) (v := .int .u32 1) rfl
       have x7 := cell_of hz213 (i := 7) (v := .slice ab 4 cb) rfl
       have HT6 : Hid (w.heap.size ≤ t6) := hid (by have h1 := HB8.out.size; have h2 := b810.size; have h3 := b12.size; omega)
       have HZ11 := hid z11
       have HZ13 := hid z13
       have hW11' := hW11.symm
       have hW12' := hW12.symm
       have hW13' := hW13.symm
       clear hb10 hno hwr b810 b11 z11 q12 b12 b13 z13 b813 hz213 hW11 hW12 hW13 HP2)
    | ((try rw [hW11']); refine wpList_store_row rfl 46 _ _ rfl g4 (caC 0 0 0 0 0 0 nilS nilS) rfl rfl 46 _ HZ11.out sizeCall rfl (caC_one _ _ _ _ _ _ _ _ _ _ _ _) ?_; (try rw [hW12'])))
  (try rw [hW13'])
  have hcv := HCV.out
  have hbd : (kC 100003).body = [1, 2, 3, 4] := rfl
  rw [hbd, HS1.out] at hcv
  clear y1 f1 hbd HCV HS1
  go_wp2_with fail
  refine HAS.out.mono ?_
  rintro r w' ⟨rfl, w2, hb2, hw'⟩
  have hz2 := (hb2.block t6 (Array.getElem?_eq_some_iff.1 HZ13.out).1).trans HZ13.out
  have hz3 := setc hz2 0 (.pointer (some ⟨gw, 0, none⟩))
  rw [← hw'] at hz3
  have hm3 : Mods (fun b => b = t6) w2 w' := (by rw [hw']; exact (Mods.refl _ _).setCell t6 0 _ rfl)
  have yt := cell_of hz3 (i := 0) (v := .pointer (some ⟨gw, 0, none⟩)) rfl
  obtain ⟨_, ar, nr, cr, hgw, hyr, hnr, _⟩ := HWR13.out.later hb2
  have hgt : gw ≠ t6 := fun e => by
    rw [e, hz2] at hgw
    simp only [Option.some.injEq, Obj.cells.injEq] at hgw
    exact absurd hgw.2.1 (by decide)
  have hgw' := (hm3.block gw (Array.getElem?_eq_some_iff.1 hgw).1 hgt).trans hgw
  have hyr' := (hyr.off hz2 (by decide)).side hm3 (fun b hb _ e => hb.2 e)
  have hnr2 : 24 = nr := hnr
  subst hnr2
  have e0 := cell_of hgw' (i := 0) (v := .int .i64 34) rfl
  have e1 := cell_of hgw' (i := 1) (v := .slice ar 24 cr) rfl
  have hcr := conv0 hyr'.bytes (k := 24) (cap := cr) rfl
  rw [HS2.out] at hcr
  have HM3 := hid hm3
  have HB2 := hid (HB13.out.trans (hb2.mono HB13.out.size))
  clear hw' hz2 hz3 hm3 hb2 hgw hyr hgt hgw' hyr' hnr HAS hcv x0 x3 x7
  go_wp2
  go_ret
  exact ⟨rfl, HM3.out.to_below HB2.out HB2.out.size (fun b hb => by have h : b = t6 := hb; have := HT6.out; omega)⟩
end Go.Proofs.YtbfdkbdjipiliaaDoor
