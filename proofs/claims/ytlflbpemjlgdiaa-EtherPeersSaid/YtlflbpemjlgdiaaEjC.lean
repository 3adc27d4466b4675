/- The document's Find. -/
import Derived.Test.YtlflbpemjlgdiaaEjB
namespace Go.Proofs.Ytlflbpemjlgdiaa
open Go.RowKit Go.Maps
set_option linter.unusedVariables false

theorem look_first (x : Int) (d : Pe) : ∀ (L : List Pe) (j : Nat), j < L.length → (∀ i, i < j → (L.getD i d).ip ≠ x) → (L.getD j d).ip = x → lookP L x = some (L.getD j d)
  | [], j, hj, _, _ => by simp at hj
  | e :: L, 0, _, _, h => by
    have h' : e.ip = x := by simpa using h
    unfold lookP; simp [h']
  | e :: L, j + 1, hj, hn, h => by
    have h0 : ¬ e.ip = x := by simpa using hn 0 (by omega)
    have := look_first x d L j (by simpa using hj) (fun i hi => by simpa using hn (i + 1) (by omega)) (by simpa using h)
    unfold lookP at this ⊢
    rw [List.find?_cons_of_neg (by simpa using h0), this]
    simp
theorem look_nowhere {x : Int} {d : Pe} {L : List Pe} (h : ∀ i, i < L.length → (L.getD i d).ip ≠ x) : lookP L x = none :=
  look_none.2 (fun e he => by
    obtain ⟨i, hi, rfl⟩ := List.getElem_of_mem he
    have := h i hi
    simpa [List.getD, hi] using this)
set_option maxRecDepth 100000 in
set_option maxHeartbeats 2000000 in
theorem rFind_any (w : World) (q : Nat) (T : Nat → Prop) (own : Mac) (ip : Int) (L : List Pe) (x : Int) (h : RPeAt w q T own ip L) (hT : ∀ b, T b → b < w.heap.size) :
    Calls Try.prog 23 #[.pointer (some ⟨q, 0, none⟩), .int .u32 x] w fun e w' => e = .returned (.tuple #[.agg (macC (findM L x)), .bool (lookP L x).isSome]) ∧ Below w.heap.size w w' := by
  obtain ⟨⟨how, hip, hok, htq⟩, vl, hQ, hPR, hBT⟩ := h
  have hl16 := hok.len
  obtain ⟨g4, hg4⟩ : ∃ g, w.heap.size = g := ⟨_, rfl⟩
  obtain ⟨W1, hW1⟩ : ∃ W, W = w.alloc (.cells #[.int .u8 0, .int .u8 0, .int .u8 0, .int .u8 0, .int .u8 0, .int .u8 0] 23) := ⟨_, rfl⟩
  have b1 : Below w.heap.size w W1 := by rw [hW1]; exact below_alloc (Below.refl _ _) (Nat.le_refl _) _
  have h14 : W1.heap[g4]? = some (.cells zero6 23 (0, 0)) := by rw [hW1, ← hg4]; exact alloc_new w _
  obtain ⟨av, cv, rfl⟩ := hPR.shape
  have hq1 := (b1.block q (Array.getElem?_eq_some_iff.1 hQ).1).trans hQ
  have cq := cell_of hq1 (i := 7) (v := .slice av L.length cv) rfl
  have HPR1 := hid (hPR.later b1)
  have HB1 := hid b1
  have H14 := hid h14
  have HG4 := hid hg4
  have HW := hW1.symm
  obtain ⟨R, hR⟩ : ∃ R : Mac × Bool, R = (findM L x, (lookP L x).isSome) := ⟨_, rfl⟩
  have hR1 : findM L x = R.1 := by rw [hR]
  have hR2 : (lookP L x).isSome = R.2 := by rw [hR]
  rw [hR1, hR2]
  have HR1 := hid hR1
  have HR2 := hid hR2
  clear hW1 b1 h14 hQ hPR hBT how hip hok htq hq1 hR hR1 hR2
  go_enter Try.func23, Try.ntmps23
  go_wp2
  go_loopw [6] (fun i wr => ∃ j : Nat, j ≤ L.length ∧ i = .int .i64 j ∧ wr = W1 ∧ ∀ i, i < j → (L.getD i ⟨0, mac0⟩).ip ≠ x) (fun i _ => L.length - (RowKit.intOf i).toNat)
  case atStart => exact ⟨0, Nat.zero_le _, rfl, rfl, fun i hi => by omega⟩
  case round =>
    obtain ⟨j, hj, rfl, hwr, hno⟩ := hrel
    obtain rfl : W1 = wr := hwr.symm
    have HNO := hid hno
    clear hno
    by_cases hjl : j < L.length
    · obtain ⟨b1, o1, c1, e1, hcs⟩ := HPR1.out.at_ (i := j) hjl ⟨0, mac0⟩
      simp only [Value.slice.injEq, true_and] at e1
      obtain ⟨rfl, rfl⟩ := e1
      obtain ⟨d, hd⟩ : ∃ d, L.getD j ⟨0, mac0⟩ = d := ⟨_, rfl⟩
      rw [hd] at hcs
      have HD := hid hd
      have q0 : W1.cell? ⟨b1, o1 + j * 7, none⟩ = some (.int .u32 d.ip) := by have := hcs 0 (by omega); rw [Nat.add_zero] at this; exact this
      have hji : (j : Int) < L.length := by omega
      by_cases hdx : d.ip = x
      · have hdx' : (d.ip == x) = true := by simpa using hdx
        have hlk : lookP L x = some d := by rw [← hd]; exact look_first x ⟨0, mac0⟩ L j hjl HNO.out (by rw [hd]; exact hdx)
        have HM : Hid (R.1 = d.mac) := hid (by rw [← HR1.out]; unfold findM; rw [hlk]; rfl)
        have HBB : Hid (R.2 = true) := hid (by rw [← HR2.out, hlk]; rfl)
        have hrg : W1.rangeAt b1 (o1 + j * 7 + 1) [.int .u8 d.mac.a, .int .u8 d.mac.b, .int .u8 d.mac.c, .int .u8 d.mac.d, .int .u8 d.mac.e, .int .u8 d.mac.f] := fun i v hv => by
          have hi : i < 6 := (List.getElem?_eq_some_iff.1 hv).1
          have := hcs (1 + i) (by omega)
          rw [← Nat.add_assoc] at this
          rw [this]
          rcases (show i = 0 ∨ i = 1 ∨ i = 2 ∨ i = 3 ∨ i = 4 ∨ i = 5 by omega) with rfl | rfl | rfl | rfl | rfl | rfl <;> exact hv
        have HRG := hid hrg
        clear hcs hd hdx hlk hrg
        go_wp2_with (first
          | (refine wpList_load_mid rfl 23 _ rfl b1 (o1 + j * 7 + 1) rfl [.int .u8 d.mac.a, .int .u8 d.mac.b, .int .u8 d.mac.c, .int .u8 d.mac.d, .int .u8 d.mac.e, .int .u8 d.mac.f] _ HRG.out Try.underlying23 rfl size6 ?_)
          | (refine wpList_store_row rfl 23 _ _ rfl g4 (macC d.mac) rfl rfl 23 _ H14.out size6 rfl (macC_one _) ?_))
        have hbw := (setRow_mods W1 g4 (macC d.mac)).to_below HB1.out HB1.out.size (fun y hy => by rw [hy, HG4.out]; exact Nat.le_refl _)
        refine bodyPost_ret (results_ca rfl _ _ g4 (macC d.mac) _ _ _ rfl (setRow_heap _ g4 _ _ _ _ H14.out) Try.underlying23 size6) rfl ⟨by rw [HM.out, HBB.out]; rfl, ?_⟩
        first | exact hbw | (rw [HG4.out] at hbw; exact hbw)
      · have hdx' : (d.ip == x) = false := by simpa using hdx
        have HN2 : Hid (∀ i, i < j + 1 → (L.getD i ⟨0, mac0⟩).ip ≠ x) := hid (fun i hi => by
          rcases (show i < j ∨ i = j by omega) with h1 | h1
          · exact HNO.out i h1
          · subst h1; rw [HD.out]; exact hdx)
        clear hcs hd hdx
        go_wp2
        go_roundw
        case rel => exact ⟨j + 1, hjl, by go_num, trivial, HN2.out⟩
        case measure => simp [RowKit.intOf]; omega
    · obtain rfl : j = L.length := by omega
      have hlk : lookP L x = none := look_nowhere HNO.out
      have HM : Hid (R.1 = mac0) := hid (by rw [← HR1.out]; unfold findM; rw [hlk]; rfl)
      have HBB : Hid (R.2 = false) := hid (by rw [← HR2.out, hlk]; rfl)
      have hji : ¬ ((L.length : Int) < L.length) := by omega
      clear hlk
      go_wp2_with (refine wpList_store_row rfl 23 _ _ rfl g4 (macC mac0) rfl rfl 23 _ H14.out size6 rfl (macC_one _) ?_)
      have hbw := (setRow_mods W1 g4 (macC mac0)).to_below HB1.out HB1.out.size (fun y hy => by rw [hy, HG4.out]; exact Nat.le_refl _)
      refine bodyPost_ret (results_ca rfl _ _ g4 (macC mac0) _ _ _ rfl (setRow_heap _ g4 _ _ _ _ H14.out) Try.underlying23 size6) rfl ⟨by rw [HM.out, HBB.out]; rfl, ?_⟩
      first | exact hbw | (rw [HG4.out] at hbw; exact hbw)
end Go.Proofs.Ytlflbpemjlgdiaa
