/- Save. -/
import Derived.Test.YtgcaidjppcjjeaaGreatDoorIeJ
namespace Go.Proofs.YtgcaidjppcjjeaaGreatDoor
open Go.RowKit Go.Maps
set_option linter.unusedVariables false
variable {w w' : World} {pv n N : Nat} {S S' T : Nat → Prop} {i : Int} {base : Value} {P P' : Int → Option (List Int)} {bc c c' : Nat → List Int}
set_option maxRecDepth 100000 in
set_option maxHeartbeats 2000000 in
theorem Save_ok (h : Dw w pv S N i base T bc n P c) (hn : n < 900000) (k : Nat) (hk : 1 ≤ k) (hk2 : (k : Int) < i) (T0 A B : Nat) (hT : planT N = (T0 : Int)) (hA : T0 + k / 4 = A) (hB : k % 4 * 128 = B) (hAN : A < N) (hk3 : k < 1000000) (hT2 : T0 < 1000000) (y : Ino) (hf : InoFit y) :
    Calls Tryz.prog 27 #[ptrV pv, n64 k, .agg (inoC y)] w fun e w' => e = .returned .nilIface ∧ ∃ S', Dw w' pv S' N i base T bc (n + 1) (upd P (A : Int) (some (layL (c A) B (encI y)))) (updN c A (layL (c A) B (encI y))) ∧ Kp S w S' w' := by
  obtain ⟨X, hX⟩ : ∃ X, X = inoC y := ⟨_, rfl⟩
  have hXs : X.size = 23 := by rw [hX]; rfl
  have hX1 : X.all (·.oneCell') = true := by rw [hX]; simp [inoC, Value.oneCell']
  have HE : Hid (∀ W, Calls Tryz.prog 70 #[.agg X] W fun e w' => ∃ g, e = .returned (.tuple #[.slice (some ⟨g, 0, none⟩) 128 128, .int .i64 0]) ∧ By w' (New W) (some ⟨g, 0, none⟩) (encI y) ∧ Below W.heap.size W w') := hid (fun W => by rw [hX]; exact encoded_ok W y hf)
  rw [← hX]
  obtain ⟨W1, hW1⟩ : ∃ W, W = w.alloc (.cells X 39) := ⟨_, rfl⟩
  have b1 : Below w.heap.size w W1 := by rw [hW1]; exact (Below.refl _ _).alloc (Nat.le_refl _) _
  have h1 : W1.heap[w.heap.size]? = some (.cells X 39 (0, 0)) := by rw [hW1]; exact alloc_new w _
  have H1 := hid h1
  have B1 := hid b1
  clear b1 h1
  have HD := hid h
  have HNU : Hid (∀ W, Below w.heap.size w W → Calls Tryz.prog 58 #[ptrV pv, n64 k] W fun e w' => e = .returned (.bool true) ∧ Below W.heap.size W w') := hid (fun W hb => isNumber_yes (h.later hb).v k hk hk2)
  have HPL : Hid (∀ W, Below w.heap.size w W → Calls Tryz.prog 59 #[ptrV pv, n64 k] W fun e w' => e = .returned (.tuple #[n64 A, n64 B]) ∧ Below W.heap.size W w') := hid (fun W hb => by rw [← hA, ← hB]; exact placeOf_any (h.later hb).v k hk3 T0 hT hT2)
  have HH := hid (And.intro hn hAN)
  have hB2 : B ≤ 384 := by omega
  have HC : Hid ((c A).length = 512 ∧ ∀ y ∈ c A, IsB y) := hid ⟨h.len A hAN, h.isB A hAN⟩
  have HXS := hid (And.intro hXs hX1)
  obtain ⟨p, hp⟩ : ∃ p, p = encI y := ⟨_, rfl⟩
  have HP : Hid (p.length = 128) := hid (by rw [hp]; exact encI_len y)
  rw [← hp] at HE ⊢
  clear h hk hk2 hT hA hB hAN hk3 hT2 hf hn hXs hX1 hX hp
  go_enter Tryz.func27, Tryz.ntmps27
  go_wp2_with (first | (rw [← hW1]; clear hW1) | (refine wpList_load_row rfl 39 _ rfl w.heap.size rfl 39 X (0, 0) _ H1.out Tryz.underlying39 rfl (by rw [HXS.out.1]; exact sizeIno) ?_))
  refine (HE.out W1).mono ?_
  rintro e w1 ⟨g1, rfl, hy1, hb1⟩
  have HB1 := hid (B1.out.trans (hb1.mono B1.out.size))
  have HY1 := hid hy1
  have HN1 := hid (HNU.out w1 HB1.out)
  clear hb1 hy1 HNU HE
  go_wp2_with fail
  refine HN1.out.mono ?_
  rintro e w2 ⟨rfl, hb2⟩
  have HB2 := hid (HB1.out.trans (hb2.mono HB1.out.size))
  have HY2 := hid (HY1.out.later hb2)
  have HP1 := hid (HPL.out w2 HB2.out)
  clear hb2 HPL HN1 HY1
  go_wp2_with fail
  refine HP1.out.mono ?_
  rintro e w3 ⟨rfl, hb3⟩
  have HB3 := hid (HB2.out.trans (hb3.mono HB2.out.size))
  have HY3 := hid (HY2.out.later hb3)
  have HG := hid ((HD.out.later HB3.out).Get A HH.out.2)
  clear hb3 HP1 HY2 HB2
  go_wp2_with fail
  refine HG.out.mono ?_
  rintro e w4 ⟨g2, c2, rfl, ho2, hb4⟩
  have HBW := hid (HB3.out.trans (hb4.mono HB3.out.size))
  have HY4 := hid (HY3.out.later hb4)
  obtain ⟨cur, hh2, hc1, hc2, hcs, hcur, _⟩ := owns_block ho2
  have hg2 := (owns_lt ho2 (g := g2) rfl).2
  obtain ⟨rest, hrest⟩ : ∃ rest, cur.toList = u8s (c A) ++ rest := by
    refine ⟨cur.toList.drop 512, ?_⟩
    conv => lhs; rw [← List.take_append_drop 512 cur.toList]
    congr 1
    apply List.ext_getElem?
    intro j
    rw [List.getElem?_take]
    by_cases hj : j < 512
    · rw [if_pos hj, Array.getElem?_toList, hcur j hj]
    · rw [if_neg hj, List.getElem?_eq_none (by simp [HC.out.1]; omega)]
  have hcl : cur = (u8s (c A) ++ rest).toArray := by rw [← hrest]
  rw [hcl] at hh2
  have HH2 := hid hh2
  have HRL : Hid (512 + rest.length = c2) := hid (by rw [hcl] at hcs; simp [HC.out.1] at hcs; omega)
  have hfc : ¬ c2 = B := by omega
  have hfc2 : B ≤ c2 := by omega
  have hfc3 : (B : Int) ≤ 512 := by omega
  have hfc4 : B ≤ 512 := by omega
  have HGW : Hid (w.heap.size ≤ g2) := hid (Nat.le_trans HB3.out.size hg2)
  obtain ⟨X2, hX2⟩ : ∃ X2, X2 = u8s (c A) ++ rest := ⟨_, rfl⟩
  obtain ⟨Y, hY⟩ : ∃ Y, Y = u8s p := ⟨_, rfl⟩
  rw [← hX2] at HH2
  have HSRC : Hid (∀ j v, Y[j]? = some v → w4.cell? ((⟨g1, 0, none⟩ : Addr).add j) = some v) := hid (fun j v hj => by
    obtain ⟨gb, go, ea, _, hc⟩ := HY4.out.at_ (by rw [HP.out]; decide)
    simp only [Option.some.injEq, Addr.mk.injEq] at ea
    obtain ⟨rfl, rfl, _⟩ := ea
    rw [hY] at hj
    have hj2 : j < p.length := by have := (List.getElem?_eq_some_iff.1 hj).1; simpa using this
    rw [add_addr, hc j hj2, ← hj, u8s_get hj2])
  have HYL : Hid (Y.length = 128 ∧ ∀ v ∈ Y, v.oneCell' = true) := hid ⟨by rw [hY]; simp [HP.out], by rw [hY]; exact u8s_one p⟩
  have HXL : Hid (X2.length = c2) := hid (by rw [hX2]; simp [HC.out.1]; exact HRL.out)
  have HXY : Hid (splice X2 B Y = u8s (layL (c A) B p) ++ rest) := hid (by rw [hX2, hY]; exact layL_splice _ _ _ _ (by rw [HP.out, HC.out.1]; omega))
  clear ho2 hb4 hh2 hcur hcs hc1 hc2 hcl hrest hg2 HG HY3 hX2 hY
  go_wp2_with (show wpList _ _ _ ({ dst := _, op := .call { callee := .builtin .copy, args := #[.tmp 44, .tmp 45], argTypes := #[54, 54] }, type := _, pos := _, after := _, guard := none } :: _) _ _; refine wpList_copy_splice rfl (.tmp 44) (.tmp 45) 54 54 rfl 5 Tryz.underlying54 info5s (some ⟨g2, B, none⟩) (some ⟨g1, 0, none⟩) (512 - B) (c2 - B) 128 128 rfl rfl g2 B X2 5 HH2.out Y (by rw [HYL.out.1]; exact (Nat.min_eq_left (by omega)).symm) (fun _ => ⟨rfl, _, rfl, HSRC.out⟩) (by rw [HYL.out.1, HXL.out]; have := HRL.out; omega) HYL.out.2 w.heap.size w HBW.out HGW.out ?_; intro w5 hh5 hb5; have HB5 := hid hb5; clear hb5)
  have HH5 := hid hh5.out
  rw [HXY.out] at HH5
  have hy5 : By w5 (fun _ => True) (some ⟨g2, 0, none⟩) (layL (c A) B p) := by
    refine ⟨layL_isB HC.out.2 HY4.out.isB, fun _ => ⟨g2, 0, _, _, rfl, trivial, HH5.out, fun j hj => ?_⟩⟩
    rw [Nat.zero_add, List.getElem?_toArray, List.getElem?_append_left (by simpa using hj), u8s_get hj]
  have HPU := hid ((HD.out.later HB5.out).Put HH.out.1 A HH.out.2 (fun _ => True) (layL (c A) B p) (by rw [layL_len _ _ _ (by rw [HP.out, HC.out.1]; omega)]; exact HC.out.1) (some ⟨g2, 0, none⟩) c2 hy5)
  clear hh5 hy5 HXY HSRC HYL HXL HBW HGW
  go_wp2_with fail
  refine HPU.out.mono ?_
  rintro e w6 ⟨rfl, S', hd6, hk6⟩
  have HD6 := hid hd6
  have HK6 := hid ((Kp.below (S := S) HB5.out).trans hk6)
  clear hd6 hk6 HPU
  go_wp2
  go_ret
  exact ⟨rfl, S', HD6.out, HK6.out⟩
end Go.Proofs.YtgcaidjppcjjeaaGreatDoor
