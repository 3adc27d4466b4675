/- The document's Learn. -/
import Derived.Test.YtlflbpemjlgdiaaEjA
import Derived.Test.YtlflbpemjlgdiaaEgA
namespace Go.Proofs.Ytlflbpemjlgdiaa
open Go.RowKit Go.Maps
set_option linter.unusedVariables false

abbrev rpC (m : Mac) (ip : Int) (vl : Value) : Array Value := #[.int .u8 m.a, .int .u8 m.b, .int .u8 m.c, .int .u8 m.d, .int .u8 m.e, .int .u8 m.f, .int .u32 ip, vl]
/-- The document's Peers at block q, its own blocks in T. -/
def RPeAt (w : World) (q : Nat) (T : Nat → Prop) (own : Mac) (ip : Int) (L : List Pe) : Prop :=
  (own.ok ∧ IsU ip ∧ OkL L ∧ T q) ∧ ∃ vl, w.heap[q]? = some (.cells (rpC own ip vl) 47 (0, 0)) ∧ PRw w vl L ∧ ∀ b, blkV vl = some b → T b
section
variable {w w' : World} {q : Nat} {T S : Nat → Prop} {own : Mac} {ip : Int} {L : List Pe}
theorem RPeAt.keep (h : RPeAt w q T own ip L) (hk : ∀ b, T b → b < w.heap.size → w'.heap[b]? = w.heap[b]?) : RPeAt w' q T own ip L := by
  obtain ⟨h0, vl, h1, h2, h3⟩ := h
  exact ⟨h0, vl, (hk q h0.2.2.2 (Array.getElem?_eq_some_iff.1 h1).1).trans h1, h2.keep (fun b hb => hk b (h3 b hb) (h2.lt hb)), h3⟩
theorem RPeAt.later (h : RPeAt w q T own ip L) (hb : Below w.heap.size w w') : RPeAt w' q T own ip L := h.keep (fun b _ hl => hb.block b hl)
theorem RPeAt.mods (h : RPeAt w q T own ip L) (hm : Mods S w w') (hd : ∀ b, T b → ¬ S b) : RPeAt w' q T own ip L := h.keep (fun b hb hl => hm.block b hl (hd b hb))
end
theorem OkL.tail {L : List Pe} (h : OkL L) : OkL (L.drop 1) :=
  ⟨fun e he => h.ok e (List.mem_of_mem_drop he), by have := h.len; simp; omega, by rw [List.map_drop]; exact h.nd.sublist (List.drop_sublist _ _)⟩
theorem learn_ok {L : List Pe} (h : OkL L) {x : Int} {m : Mac} (hx : IsU x) (hm : m.ok) : OkL (learnL L x m) := by
  unfold learnL
  by_cases h0 : x = 0
  · rw [if_pos h0]; exact h
  · rw [if_neg h0]
    have hd := h.drop x
    have hn := look_dropped L x
    by_cases h16 : 16 ≤ (dropP L x).length
    · rw [if_pos h16]
      exact hd.tail.push hx h0 hm (by have := hd.len; simp; omega) (look_none.2 (fun e he => look_none.1 hn e (List.mem_of_mem_drop he)))
    · rw [if_neg h16]
      exact hd.push hx h0 hm (by omega) hn
theorem drop_snoc (L : List Pe) (x : Int) (j : Nat) (d : Pe) (h : j < L.length) : dropP (L.take (j + 1)) x = dropP (L.take j) x ++ (if (L.getD j d).ip = x then [] else [L.getD j d]) := by
  have e : L.getD j d = L[j] := by simp [List.getD, h]
  unfold dropP
  rw [List.take_succ_eq_append_getElem h, List.filter_append, e]
  congr 1
  by_cases hp : L[j].ip = x <;> simp [hp]
theorem sizePe : (Try.prog.info? 57).map (·.size) = some 7 := by kernel_rfl
theorem cut7_run (b off len cap : Nat) (h : 1 < len) (hc : len ≤ cap) (W : World) : (Instr.slice 45 (.slice (some ⟨b, off, none⟩) len cap) (some (.int .i64 1)) none none).run Try.prog W = .ok (.slice (some ⟨b, off + 7, none⟩) (len - 1) (cap - 1)) W := by
  have hz : (sizeOf 57).run Try.prog W = .ok 7 W := by kernel_rfl
  have h1 := run_slice_l (P := Try.prog) W 45 (some ⟨b, off, none⟩) len cap Try.underlying45 .i64 1 (by omega) (by omega)
  have e : Try.prog.elem 45 = 57 := by kernel_rfl
  rw [e, hz] at h1
  have h2 : ¬ (cap = 1) := by omega
  refine Eq.trans h1 ?_
  simp [sliced, Addr.add, h2]
def RLearnPost (q : Nat) (T : Nat → Prop) (own : Mac) (ip : Int) (L' : List Pe) (w : World) (e : Ending) (w' : World) : Prop :=
  e = .returned (.tuple #[]) ∧ ∃ T', RPeAt w' q T' own ip L' ∧ Kp T w T' w' ∧ ∀ b, T' b → b < w'.heap.size
set_option maxRecDepth 100000 in
set_option maxHeartbeats 4000000 in
theorem rLearn_any (w : World) (q : Nat) (T : Nat → Prop) (own : Mac) (ip : Int) (L : List Pe) (x : Int) (m : Mac) (h : RPeAt w q T own ip L) (hT : ∀ b, T b → b < w.heap.size) (hx : IsU x) (hm : m.ok) :
    Calls Try.prog 16 #[.pointer (some ⟨q, 0, none⟩), .int .u32 x, .agg (macC m)] w (RLearnPost q T own ip (learnL L x m) w) := by
  have HRP := hid h
  have HT := hid hT
  have HOKN := hid (learn_ok h.1.2.2.1 hx hm)
  obtain ⟨⟨how, hip, hok, htq⟩, vl, hQ, hPR, hBT⟩ := h
  have hl16 := hok.len
  obtain ⟨g5, hg5⟩ : ∃ g, w.heap.size = g := ⟨_, rfl⟩
  obtain ⟨W1, hW1⟩ : ∃ W, W = w.alloc (.cells (macC m) 23) := ⟨_, rfl⟩
  have b1 : Below w.heap.size w W1 := by rw [hW1]; exact below_alloc (Below.refl _ _) (Nat.le_refl _) _
  have h15 : W1.heap[g5]? = some (.cells (macC m) 23 (0, 0)) := by rw [hW1, ← hg5]; exact alloc_new w _
  have HB1 := hid b1
  have HW := hW1.symm
  by_cases h0 : x = 0
  · subst h0
    rw [learn_zero]
    clear hW1 b1 h15 hQ hPR hBT hx hm
    go_enter Try.func16, Try.ntmps16
    go_wp2
    refine bodyPost_ret (results_none rfl _ _ _) rfl ⟨rfl, T, HRP.out.later HB1.out, Kp.below HB1.out, fun b hb => Nat.lt_of_lt_of_le (HT.out b hb) HB1.out.size⟩
  obtain ⟨av, cv, rfl⟩ := hPR.shape
  have h0' : (x == 0) = false := by simpa using h0
  have HPR1 := hid (hPR.later b1)
  have HQ1 := hid ((b1.block q (Array.getElem?_eq_some_iff.1 hQ).1).trans hQ)
  have H15 := hid h15
  have HBT := hid hBT
  have HTQ := hid htq
  have HOW := hid how
  have HIP := hid hip
  obtain ⟨F, hF⟩ : ∃ F : Nat → List Pe, F = fun j => dropP (L.take j) x := ⟨_, rfl⟩
  have HF0 : Hid (F 0 = []) := hid (by rw [hF]; rfl)
  have HFS : Hid (∀ j d, j < L.length → F (j + 1) = F j ++ (if (L.getD j d).ip = x then [] else [L.getD j d])) := hid (fun j d hj => by rw [hF]; exact drop_snoc L x j d hj)
  have HFN : Hid (F L.length = dropP L x) := hid (by rw [hF]; show dropP (L.take L.length) x = _; rw [List.take_length])
  have HFL : Hid (∀ j, (F j).length ≤ 16) := hid (fun j => by rw [hF]; refine Nat.le_trans (List.length_filter_le _ _) ?_; rw [List.length_take]; omega)
  have HLE : Hid (learnL L x m = (if 16 ≤ (dropP L x).length then (dropP L x).drop 1 else dropP L x) ++ [⟨x, m⟩]) := hid (by unfold learnL; rw [if_neg h0])
  clear hW1 b1 h15 hQ hPR hBT hx hm hF how hip hok htq hT
  go_enter Try.func16, Try.ntmps16
  go_wp2
  go_loopw [6, 7] (fun v i wr => ∃ (j : Nat) (ra : Option Addr) (rc : Nat), j ≤ L.length ∧ i = .int .i64 j ∧ v = .slice ra (F j).length rc ∧ PRw wr (.slice ra (F j).length rc) (F j) ∧ (∀ b, blkV (.slice ra (F j).length rc) = some b → W1.heap.size ≤ b) ∧ Below W1.heap.size W1 wr) (fun _ i _ => L.length - (RowKit.intOf i).toNat)
  case atStart => exact ⟨0, none, 0, Nat.zero_le _, rfl, by rw [HF0.out]; rfl, by rw [HF0.out]; exact .inl ⟨rfl, rfl⟩, fun b hb => by simp [blkV] at hb, Below.refl _ _⟩
  case round =>
    obtain ⟨j, ra, rc, hj, rfl, rfl, hp, hbl, hb⟩ := hrel
    have hq := (hb.block q (Array.getElem?_eq_some_iff.1 HQ1.out).1).trans HQ1.out
    have cq := cell_of hq (i := 7) (v := .slice av L.length cv) rfl
    have HQ := hid hq
    clear hq
    by_cases hjl : j < L.length
    · obtain ⟨b1, o1, c1, e1, hcs⟩ := (HPR1.out.later hb).at_ (i := j) hjl ⟨0, m⟩
      simp only [Value.slice.injEq, true_and] at e1
      obtain ⟨rfl, rfl⟩ := e1
      have hfs := HFS.out j ⟨0, m⟩ hjl
      obtain ⟨d, hd⟩ : ∃ d, L.getD j ⟨0, m⟩ = d := ⟨_, rfl⟩
      rw [hd] at hcs hfs
      have q0 : wr.cell? ⟨b1, o1 + j * 7, none⟩ = some (.int .u32 d.ip) := by have := hcs 0 (by omega); rw [Nat.add_zero] at this; exact this
      have hfl := HFL.out j
      obtain ⟨fn, hfn⟩ : ∃ fn, (F j).length = fn := ⟨_, rfl⟩
      rw [hfn] at hp hbl hfl ⊢
      have hji : (j : Int) < L.length := by omega
      by_cases hdx : d.ip = x
      · have hdx' : (d.ip != x) = false := by simpa using hdx
        have HFE : Hid (F (j + 1) = F j) := hid (by rw [hfs, if_pos hdx]; simp)
        have HP := hid hp
        have HBL := hid hbl
        have HB := hid hb
        have HFN2 := hid hfn
        clear hfs hp hbl hb hfn hcs hd hdx
        go_wp2
        go_roundw
        case rel => exact ⟨j + 1, ra, rc, hjl, by go_num, by rw [HFE.out, HFN2.out], by rw [HFE.out, HFN2.out]; exact HP.out, by rw [HFE.out, HFN2.out]; exact HBL.out, HB.out⟩
        case measure => simp [RowKit.intOf]; omega
      · have hdx' : (d.ip != x) = true := by simpa using hdx
        have HFE : Hid (F (j + 1) = F j ++ [d]) := hid (by rw [hfs, if_neg hdx])
        obtain ⟨W2, hW2⟩ : ∃ W, W = wr.alloc (.cells #[.int .u32 d.ip, .int .u8 d.mac.a, .int .u8 d.mac.b, .int .u8 d.mac.c, .int .u8 d.mac.d, .int .u8 d.mac.e, .int .u8 d.mac.f] 57) := ⟨_, rfl⟩
        have b2 : Below wr.heap.size wr W2 := by rw [hW2]; exact below_alloc (Below.refl _ _) (Nat.le_refl _) _
        obtain ⟨a7, c7, w7, hap, hp7, hm7, hob7⟩ := PRw.push W2 (.slice ra fn rc) (F j) (hp.later b2) d (by omega) wr.heap.size (fun i hi => by
          rw [hW2]
          rcases (show i = 0 ∨ i = 1 ∨ i = 2 ∨ i = 3 ∨ i = 4 ∨ i = 5 ∨ i = 6 by omega) with rfl | rfl | rfl | rfl | rfl | rfl | rfl <;> exact new_cell wr _ _ _ _ (by simp)) 45
        rw [hfn] at hap hp7 hob7
        have HP7 := hid hp7
        have HBL7 : Hid (∀ b, blkV (.slice a7 (fn + 1) c7) = some b → W1.heap.size ≤ b) := hid (fun b hb7 => by
          rcases hob7 with e | ⟨y, hy, e⟩
          · rw [e] at hb7; exact hbl b hb7
          · rw [e] at hb7; simp at hb7; have := hb.size; have := b2.size; omega)
        have HB7 : Hid (Below W1.heap.size W1 w7) := hid ((hm7.to_below (hb.trans (b2.mono hb.size)) (Nat.le_trans hb.size b2.size) (fun b hb7 => hbl b hb7)))
        have HFN2 := hid hfn
        have hrg : wr.rangeAt b1 (o1 + j * 7) [.int .u32 d.ip, .int .u8 d.mac.a, .int .u8 d.mac.b, .int .u8 d.mac.c, .int .u8 d.mac.d, .int .u8 d.mac.e, .int .u8 d.mac.f] := fun i v hv => by
          have hi : i < 7 := (List.getElem?_eq_some_iff.1 hv).1
          rw [hcs i hi]; exact hv
        have HRG := hid hrg
        clear hfs hp hbl hb hfn hp7 hm7 hob7 hdx b2 hcs hrg hd
        go_wp2_with (first
          | (refine wpList_load_mid rfl 57 _ rfl b1 (o1 + j * 7) rfl [.int .u32 d.ip, .int .u8 d.mac.a, .int .u8 d.mac.b, .int .u8 d.mac.c, .int .u8 d.mac.d, .int .u8 d.mac.e, .int .u8 d.mac.f] _ HRG.out Try.underlying57 rfl sizePe ?_)
          | (at_builtin; rw [← hW2]; refine wpList_append_run rfl _ _ 45 rfl rfl rfl hap ?_))
        go_roundw
        case rel => exact ⟨j + 1, a7, c7, hjl, by go_num, by rw [HFE.out, List.length_append, HFN2.out]; rfl, by rw [HFE.out, List.length_append, HFN2.out]; exact HP7.out, by rw [HFE.out, List.length_append, HFN2.out]; exact HBL7.out, HB7.out⟩
        case measure => simp [RowKit.intOf]; omega
    · obtain rfl : j = L.length := by omega
      have hfl := HFL.out L.length
      rw [HFN.out] at hp hbl hfl ⊢
      obtain ⟨fn, hfn⟩ : ∃ fn, (dropP L x).length = fn := ⟨_, rfl⟩
      rw [hfn] at hp hbl hfl ⊢
      have hji : ¬ ((L.length : Int) < L.length) := by omega
      by_cases h16 : 16 ≤ fn
      · obtain rfl : fn = 16 := by omega
        obtain ⟨b8, o8, c8, e8, _⟩ := hp.at_ (i := 0) (by omega) ⟨0, m⟩
        rw [hfn] at e8
        simp only [Value.slice.injEq, true_and] at e8
        obtain ⟨rfl, rfl⟩ := e8
        have hcap : 16 ≤ rc := by
          rcases hp with ⟨e, _⟩ | ⟨_, _, _, _, e, _, h1, _⟩
          · simp at e
          · simp only [Value.slice.injEq] at e; rw [hfn] at h1; omega
        have hcut := cut7_run b8 o8 16 rc (by omega) hcap
        have hpp := hp.tail (by omega)
        have hblv : ∀ b, blkV (.slice (some ⟨b8, o8 + 7, none⟩) (16 - 1) (rc - 1)) = some b → W1.heap.size ≤ b := fun b hb => hbl b hb
        have hfin : learnL L x m = (dropP L x).drop 1 ++ [⟨x, m⟩] := by rw [HLE.out, if_pos (by omega)]
        have hlL : ((dropP L x).drop 1).length = 15 := by rw [List.length_drop, hfn]
        clear hp hbl
        simp only [show 16 - 1 = 15 from rfl] at hcut hpp hblv
        go_upto_region 10 with fail
        obtain ⟨W2, hW2⟩ : ∃ W, W = wr.alloc (.cells #[.int .u32 x, .int .u8 m.a, .int .u8 m.b, .int .u8 m.c, .int .u8 m.d, .int .u8 m.e, .int .u8 m.f] 57) := ⟨_, rfl⟩
        have b2 : Below wr.heap.size wr W2 := by rw [hW2]; exact below_alloc (Below.refl _ _) (Nat.le_refl _) _
        obtain ⟨a7, c7, w7, hap, hp7, hm7, hob7⟩ := PRw.push W2 (.slice (some ⟨b8, o8 + 7, none⟩) 15 (rc - 1)) ((dropP L x).drop 1) (hpp.later b2) ⟨x, m⟩ (by rw [hlL]; omega) wr.heap.size (fun i hi => by
          rw [hW2]
          rcases (show i = 0 ∨ i = 1 ∨ i = 2 ∨ i = 3 ∨ i = 4 ∨ i = 5 ∨ i = 6 by omega) with rfl | rfl | rfl | rfl | rfl | rfl | rfl <;> exact new_cell wr _ _ _ _ (by simp)) 45
        rw [hlL] at hap hp7 hob7
        rw [← hfin] at hp7
        have hqlt := (Array.getElem?_eq_some_iff.1 HQ1.out).1
        have hq7 : w7.heap[q]? = _ := (hm7.block q (Nat.lt_of_lt_of_le (Array.getElem?_eq_some_iff.1 HQ.out).1 b2.size) (fun e => by have := hblv q e; omega)).trans ((b2.block q (Array.getElem?_eq_some_iff.1 HQ.out).1).trans HQ.out)
        have hbl7 : ∀ b, blkV (.slice a7 (15 + 1) c7) = some b → W1.heap.size ≤ b := fun b hb7 => by
          rcases hob7 with e | ⟨y, hy, e⟩
          · rw [e] at hb7; exact hblv b hb7
          · rw [e] at hb7; simp at hb7; have := hb.size; have := b2.size; omega
        have hB7 : Below W1.heap.size W1 w7 := (hm7.to_below (hb.trans (b2.mono hb.size)) (Nat.le_trans hb.size b2.size) (fun b hb7 => hblv b hb7))
        have hc7 := cell_of hq7 (i := 7) (v := .slice av L.length cv) rfl
        have hf7 := froz_of hq7 7
        have HQ7 := hid hq7
        have HP7 := hid hp7
        have HBL7 := hid hbl7
        have HB7 := hid hB7
        have HQL := hid hqlt
        have h5r := (hb.block g5 (Array.getElem?_eq_some_iff.1 H15.out).1).trans H15.out
        have H5R := hid h5r
        clear hp7 hm7 hob7 b2 hq7 hbl7 hB7 hqlt h5r hfin hpp hblv hb hlL
        go_wp2_with (first
          | (refine wpList_load_row rfl 23 _ rfl g5 rfl 23 _ (0, 0) _ H5R.out Try.underlying23 rfl size6 ?_)
          | (at_builtin; rw [← hW2]; refine wpList_append_run rfl _ _ 45 rfl rfl rfl hap ?_))
        go_end0
        obtain ⟨v7, hv7⟩ : ∃ v, v = Value.slice a7 (15 + 1) c7 := ⟨_, rfl⟩
        have HP7' := HP7.out
        have HBL7' := HBL7.out
        rw [← hv7] at HP7' HBL7' ⊢
        have m8 : Mods (fun b => b = q) w7 (w7.setCell ⟨q, 7, none⟩ v7) := (Mods.refl (fun b => b = q) w7).setCell q 7 v7 rfl
        have hq1 : q < w.heap.size := HT.out q HTQ.out
        have hws : w.heap.size ≤ w7.heap.size := Nat.le_trans HB1.out.size HB7.out.size
        have hs8 : (w7.setCell ⟨q, 7, none⟩ v7).heap.size = w7.heap.size := by simp [World.setCell]
        refine ⟨rfl, fun b => T b ∨ blkV v7 = some b, ⟨⟨HOW.out, HIP.out, HOKN.out, .inl HTQ.out⟩, v7, setc HQ7.out 7 v7, HP7'.keep (fun b hb => m8.block b (HP7'.lt hb) (fun e => by have := HBL7' b hb; have := HB1.out.size; omega)), fun b hb => .inr hb⟩, ⟨fun b hb => ?_, ?_⟩, fun b hb => ?_⟩
        · rcases hb with h1 | h1
          · exact .inl h1
          · exact .inr (Nat.le_trans HB1.out.size (HBL7' b h1))
        · exact (Mods.of_below (HB1.out.trans (HB7.out.mono HB1.out.size))).tr (m8.weak (fun b hb => by subst hb; exact .inl HTQ.out))
        · rw [hs8]
          rcases hb with h1 | h1
          · exact Nat.lt_of_lt_of_le (HT.out b h1) hws
          · exact HP7'.lt h1
      · have h16i : ¬ ((16 : Int) ≤ fn) := by omega
        have hpp := hp
        have hblv := hbl
        have hfin : learnL L x m = dropP L x ++ [⟨x, m⟩] := by rw [HLE.out, if_neg (by omega)]
        have hlL := hfn
        clear hp hbl
        go_upto_region 10 with fail
        obtain ⟨W2, hW2⟩ : ∃ W, W = wr.alloc (.cells #[.int .u32 x, .int .u8 m.a, .int .u8 m.b, .int .u8 m.c, .int .u8 m.d, .int .u8 m.e, .int .u8 m.f] 57) := ⟨_, rfl⟩
        have b2 : Below wr.heap.size wr W2 := by rw [hW2]; exact below_alloc (Below.refl _ _) (Nat.le_refl _) _
        obtain ⟨a7, c7, w7, hap, hp7, hm7, hob7⟩ := PRw.push W2 (.slice ra fn rc) (dropP L x) (hpp.later b2) ⟨x, m⟩ (by rw [hlL]; omega) wr.heap.size (fun i hi => by
          rw [hW2]
          rcases (show i = 0 ∨ i = 1 ∨ i = 2 ∨ i = 3 ∨ i = 4 ∨ i = 5 ∨ i = 6 by omega) with rfl | rfl | rfl | rfl | rfl | rfl | rfl <;> exact new_cell wr _ _ _ _ (by simp)) 45
        rw [hlL] at hap hp7 hob7
        rw [← hfin] at hp7
        have hqlt := (Array.getElem?_eq_some_iff.1 HQ1.out).1
        have hq7 : w7.heap[q]? = _ := (hm7.block q (Nat.lt_of_lt_of_le (Array.getElem?_eq_some_iff.1 HQ.out).1 b2.size) (fun e => by have := hblv q e; omega)).trans ((b2.block q (Array.getElem?_eq_some_iff.1 HQ.out).1).trans HQ.out)
        have hbl7 : ∀ b, blkV (.slice a7 (fn + 1) c7) = some b → W1.heap.size ≤ b := fun b hb7 => by
          rcases hob7 with e | ⟨y, hy, e⟩
          · rw [e] at hb7; exact hblv b hb7
          · rw [e] at hb7; simp at hb7; have := hb.size; have := b2.size; omega
        have hB7 : Below W1.heap.size W1 w7 := (hm7.to_below (hb.trans (b2.mono hb.size)) (Nat.le_trans hb.size b2.size) (fun b hb7 => hblv b hb7))
        have hc7 := cell_of hq7 (i := 7) (v := .slice av L.length cv) rfl
        have hf7 := froz_of hq7 7
        have HQ7 := hid hq7
        have HP7 := hid hp7
        have HBL7 := hid hbl7
        have HB7 := hid hB7
        have HQL := hid hqlt
        have h5r := (hb.block g5 (Array.getElem?_eq_some_iff.1 H15.out).1).trans H15.out
        have H5R := hid h5r
        clear hp7 hm7 hob7 b2 hq7 hbl7 hB7 hqlt h5r hfin hpp hblv hb hlL
        go_wp2_with (first
          | (refine wpList_load_row rfl 23 _ rfl g5 rfl 23 _ (0, 0) _ H5R.out Try.underlying23 rfl size6 ?_)
          | (at_builtin; rw [← hW2]; refine wpList_append_run rfl _ _ 45 rfl rfl rfl hap ?_))
        go_end0
        obtain ⟨v7, hv7⟩ : ∃ v, v = Value.slice a7 (fn + 1) c7 := ⟨_, rfl⟩
        have HP7' := HP7.out
        have HBL7' := HBL7.out
        rw [← hv7] at HP7' HBL7' ⊢
        have m8 : Mods (fun b => b = q) w7 (w7.setCell ⟨q, 7, none⟩ v7) := (Mods.refl (fun b => b = q) w7).setCell q 7 v7 rfl
        have hq1 : q < w.heap.size := HT.out q HTQ.out
        have hws : w.heap.size ≤ w7.heap.size := Nat.le_trans HB1.out.size HB7.out.size
        have hs8 : (w7.setCell ⟨q, 7, none⟩ v7).heap.size = w7.heap.size := by simp [World.setCell]
        refine ⟨rfl, fun b => T b ∨ blkV v7 = some b, ⟨⟨HOW.out, HIP.out, HOKN.out, .inl HTQ.out⟩, v7, setc HQ7.out 7 v7, HP7'.keep (fun b hb => m8.block b (HP7'.lt hb) (fun e => by have := HBL7' b hb; have := HB1.out.size; omega)), fun b hb => .inr hb⟩, ⟨fun b hb => ?_, ?_⟩, fun b hb => ?_⟩
        · rcases hb with h1 | h1
          · exact .inl h1
          · exact .inr (Nat.le_trans HB1.out.size (HBL7' b h1))
        · exact (Mods.of_below (HB1.out.trans (HB7.out.mono HB1.out.size))).tr (m8.weak (fun b hb => by subst hb; exact .inl HTQ.out))
        · rw [hs8]
          rcases hb with h1 | h1
          · exact Nat.lt_of_lt_of_le (HT.out b h1) hws
          · exact HP7'.lt h1
end Go.Proofs.Ytlflbpemjlgdiaa
