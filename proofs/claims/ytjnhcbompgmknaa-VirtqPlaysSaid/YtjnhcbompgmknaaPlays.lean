/- VirtqPlays: for all numbers and all calls it returns true: whatever both sides do, and whatever is written into the memory between, each call answers, and all bytes lie, as the document says. No condition. -/
import Derived.Test.YtjnhcbompgmknaaBothH
import Derived.Test.YtjnhcbompgmknaaBothI
namespace Go.Proofs.Ytjnhcbompgmknaa
open Go.RowKit

/-- A row of calls as it came in. -/
def ClAt (w : World) (a : Option Addr) (cs : List Cl) : Prop := ∀ i, i < cs.length → ∃ b off, a = some ⟨b, off, none⟩ ∧ w.cell? ⟨b, off + i * 4, none⟩ = some (.int .i64 (cs.getD i default).kind) ∧ w.cell? ⟨b, off + i * 4 + 1, none⟩ = some (.int .i64 (cs.getD i default).n) ∧
  w.cell? ⟨b, off + i * 4 + 2, none⟩ = some (.int .i64 (cs.getD i default).m) ∧ w.cell? ⟨b, off + i * 4 + 3, none⟩ = some (.slice (cs.getD i default).a (cs.getD i default).l.length (cs.getD i default).cap) ∧ ClOk w (cs.getD i default)
theorem ClOk.below {w w' : World} {c : Cl} (h : ClOk w c) (hb : Below w.heap.size w w') : ClOk w' c := by
  obtain ⟨h1, h2, h3, h4⟩ := h
  refine ⟨h1, fun i hi => ?_, h3, h4⟩
  obtain ⟨b, off, e, c0, c1, c2⟩ := h2 i hi
  exact ⟨b, off, e, cell_later hb c0, cell_later hb c1, cell_later hb c2⟩
/-- Both pairs in the k-th round. -/
def HeldP (w1 w : World) (H : Hd) (k : Nat) : Prop := ∃ c S T, c ≤ k ∧ T.length ≤ k ∧ Both (Z0 w1) w1 w H c S S T
theorem Size_any (w : World) (n : Int) : Calls Try.prog 8 #[.int .i64 n] w fun e w' => e = .returned (.int .i64 (sizeI n)) ∧ w' = w := by
  unfold sizeI
  cases h : pow2 n with
  | true => exact Size_yes w n h
  | false => exact Size_no w n h

set_option maxRecDepth 100000 in
set_option maxHeartbeats 8000000 in
theorem plays_any (w : World) (size base n : Int) (hb64 : -9223372036854775808 ≤ base ∧ base < 9223372036854775808) (a0 : Option Addr) (c0 : Nat) (cs : List Cl) (hcl : ClAt w a0 cs) :
    Calls Try.prog 3 #[.int .i64 size, .int .i64 base, .int .i64 n, .slice a0 cs.length c0] w fun e w' => e = .returned (.bool true) ∧ Below w.heap.size w w' := by
  have HC := hid hcl
  have HB64 := hid hb64
  clear hcl hb64
  obtain ⟨sz, hszI⟩ : ∃ sz, sz = sizeI n := ⟨_, rfl⟩
  have HS8 := hid (fun w => Size_any w n)
  have HS9 := hid (fun w => refSize_any w n)
  rw [← hszI] at HS8 HS9
  clear hszI
  generalize hcsl : cs.length = cl at *
  have HCL := hid hcsl
  clear hcsl
  go_enter Try.func3, Try.ntmps3
  go_wp2_with fail
  refine (known_any w).mono ?_
  rintro e w1 ⟨rfl, hb1⟩
  have HB1 := hid hb1
  clear hb1
  go_wp2_with (first | (go_at_call 8; refine (HS8.out w1).mono ?_; rintro e wx ⟨rfl, hw⟩; rw [hw]; clear hw wx) | (go_at_call 9; refine (HS9.out w1).mono ?_; rintro e wx ⟨rfl, hw⟩; rw [hw]; clear hw wx))
  refine (begun_any w1 size base n HB64.out).mono ?_
  rintro e w2 (⟨rfl, hb2⟩ | ⟨H, S0, rfl, hB2⟩)
  · have HB2 := hid hb2
    clear hb2
    go_wp2
    go_ret
    exact ⟨rfl, HB1.out.trans (HB2.out.mono HB1.out.size)⟩
  · have HBo2 := hid hB2
    clear hB2
    go_wp2
    go_loopw [11] (fun x wx => ∃ k : Nat, k ≤ cl ∧ k ≤ 120 ∧ x = .int .i64 k ∧ HeldP w1 wx H k) (fun x _ => 120 - (RowKit.intOf x).toNat)
    case atStart => exact ⟨0, Nat.zero_le _, Nat.zero_le _, rfl, 0, S0, [], Nat.le_refl _, Nat.le_refl _, HBo2.out⟩
    case round =>
      obtain ⟨k, hk1, hk2, rfl, c, S, T, hc, hT, hB⟩ := hrel
      have HBo := hid hB
      have hbel := hB.bel
      have HBEL := hid hbel
      obtain ⟨d0, d1, d2, d3, d4, d5⟩ := hB.cells
      clear hB HBo2
      have ek : IntKind.i64.wrap ((k : Int) + 1) = (k : Int) + 1 := IntWalk.i64_in _ (by omega)
      by_cases hlt : k < cl ∧ k < 120
      · obtain ⟨hlt1, hlt2⟩ := hlt
        have hki : (k : Int) < (cl : Int) := by omega
        have hki2 : (k : Int) < 120 := by omega
        have hk0 : (0 : Int) ≤ (k : Int) := by omega
        obtain ⟨cb, co, ha0, e0, e1, e2, e3, hok⟩ := HC.out k (by rw [HCL.out]; exact hlt1)
        subst ha0
        have f0 := cell_later HB1.out e0
        have f1 := cell_later HB1.out e1
        have f2 := cell_later HB1.out e2
        have f3 := cell_later HB1.out e3
        have HF := hid (And.intro f0 (And.intro f1 (And.intro f2 f3)))
        have HOK := hid (hok.below HB1.out)
        have g0 := cell_later hbel f0
        have g1 := cell_later hbel f1
        have g2 := cell_later hbel f2
        have g3 := cell_later hbel f3
        clear e0 e1 e2 e3 f0 f1 f2 f3 hok hbel
        generalize cs.getD k default = q at *
        by_cases h300 : q.l.length ≤ 300
        · have h300i : ¬ ((300 : Int) < (q.l.length : Int)) := by omega
          have h300n : ¬ (300 < q.l.length) := by omega
          have hdo := do_any (HBo.out.below ((Below.refl _ wr).drew)) (by omega) (by omega) q HOK.out h300
          obtain ⟨kd, qn, qm, qa, ql, qc⟩ := q
          unfold clV at hdo
          simp only at hdo g0 g1 g2 g3 HF h300 h300i h300n
          have HDO := hid hdo
          clear hdo HOK
          generalize ql.length = qlen at *
          go_wp2
          refine wp_region_held_drew (S := (fun w' => w'.cell? ⟨cb, co + k * 4, none⟩ = some (.int .i64 kd) ∧ w'.cell? ⟨cb, co + k * 4 + 1, none⟩ = some (.int .i64 qn) ∧ w'.cell? ⟨cb, co + k * 4 + 2, none⟩ = some (.int .i64 qm) ∧ w'.cell? ⟨cb, co + k * 4 + 3, none⟩ = some (.slice qa qlen qc))) (by kernel_rfl) ⟨g0, g1, g2, g3⟩ (fun hS => ?_)
          refine any_take 0 52 (.pointer (some ⟨H.pb, 0, none⟩)) rfl rfl (by kernel_rfl) (by kernel_rfl) (by kernel_rfl) (fun _ _ _ h => h) (Or.inl ⟨by rfl, ?_⟩) hS ?_
          · rintro w' ⟨hw0, hw1, hw2, hw3⟩
            go_simp
          simp only [List.setIfInBounds_toArray, List.set_cons_zero, List.set_cons_succ]
          refine any_take 1 53 (.slice (some ⟨cb, co, none⟩) cl c0) rfl rfl (by kernel_rfl) (by kernel_rfl) (by kernel_rfl) (fun _ _ _ h => h) (Or.inl ⟨by rfl, ?_⟩) hS ?_
          · rintro w' ⟨hw0, hw1, hw2, hw3⟩
            go_simp
          simp only [List.setIfInBounds_toArray, List.set_cons_zero, List.set_cons_succ]
          refine any_take 2 54 (.int .i64 k) rfl rfl (by kernel_rfl) (by kernel_rfl) (by kernel_rfl) (fun _ _ _ h => h) (Or.inl ⟨by rfl, ?_⟩) hS ?_
          · rintro w' ⟨hw0, hw1, hw2, hw3⟩
            go_simp
          simp only [List.setIfInBounds_toArray, List.set_cons_zero, List.set_cons_succ]
          refine any_take 3 55 (.pointer (some ⟨cb, co + k * 4, none⟩)) rfl rfl (by kernel_rfl) (by kernel_rfl) (by kernel_rfl) (fun _ _ _ h => h) (Or.inl ⟨by rfl, ?_⟩) hS ?_
          · rintro w' ⟨hw0, hw1, hw2, hw3⟩
            go_simp
          simp only [List.setIfInBounds_toArray, List.set_cons_zero, List.set_cons_succ]
          refine any_take 4 56 (.agg #[.int .i64 kd, .int .i64 qn, .int .i64 qm, .slice qa qlen qc]) rfl rfl (by kernel_rfl) (by kernel_rfl) (by kernel_rfl) (fun _ _ _ h => h) (Or.inl ⟨by rfl, ?_⟩) hS ?_
          · rintro w' ⟨hw0, hw1, hw2, hw3⟩
            go_simp
          simp only [List.setIfInBounds_toArray, List.set_cons_zero, List.set_cons_succ]
          refine any_one 5 (by kernel_rfl) ?_
          refine op_callE 57 (f := 11) (args := #[.pointer (some ⟨H.pb, 0, none⟩), .agg #[.int .i64 kd, .int .i64 qn, .int .i64 qm, .slice qa qlen qc]]) (R := fun v w' => v = .bool true ∧ ∃ S' T', Both (Z0 w1) w1 w' H (c + 1) S' S' T' ∧ T'.length ≤ T.length + 1) rfl (by rfl) rfl (by go_simp) (HDO.out.mono (fun e w' h => ⟨.bool true, h.1, rfl, h.2⟩)) ?_
          rintro v w5 ⟨rfl, S', T', hB5, hT5⟩
          refine ⟨⟨cell_later hB5.bel HF.out.1, cell_later hB5.bel HF.out.2.1, cell_later hB5.bel HF.out.2.2.1, cell_later hB5.bel HF.out.2.2.2⟩, ?_⟩
          simp only [List.setIfInBounds_toArray, List.set_cons_zero, List.set_cons_succ]
          refine wpAnyH_strong (S' := fun w' => Both (Z0 w1) w1 w' H (c + 1) S' S' T') (fun w' hw' => ⟨cell_later hw'.bel HF.out.1, cell_later hw'.bel HF.out.2.1, cell_later hw'.bel HF.out.2.2.1, cell_later hw'.bel HF.out.2.2.2⟩) _ _ _ _ ?_
          clear hS g0 g1 g2 g3 d0 d1 d2 d3 d4 d5 HDO
          refine any_take 6 58 (.bool false) rfl rfl (by kernel_rfl) (by kernel_rfl) (by kernel_rfl) (fun _ _ _ h => h) (Or.inl ⟨by rfl, ?_⟩) hB5 ?_
          · rintro w' hw'
            obtain ⟨p0, p1, p2, p3, p4, p5⟩ := hw'.cells
            obtain ⟨v1, v2⟩ := hw'.conv
            go_simp
          simp only [List.setIfInBounds_toArray, List.set_cons_zero, List.set_cons_succ]
          refine any_take 7 59 (.bool false) rfl rfl (by kernel_rfl) (by kernel_rfl) (by kernel_rfl) (fun _ _ _ h => h) (Or.inl ⟨by rfl, ?_⟩) hB5 ?_
          · rintro w' hw'
            obtain ⟨p0, p1, p2, p3, p4, p5⟩ := hw'.cells
            obtain ⟨v1, v2⟩ := hw'.conv
            go_simp
          simp only [List.setIfInBounds_toArray, List.set_cons_zero, List.set_cons_succ]
          refine any_take 8 60 (.pointer (some ⟨H.pb, 0, none⟩)) rfl rfl (by kernel_rfl) (by kernel_rfl) (by kernel_rfl) (fun _ _ _ h => h) (Or.inl ⟨by rfl, ?_⟩) hB5 ?_
          · rintro w' hw'
            obtain ⟨p0, p1, p2, p3, p4, p5⟩ := hw'.cells
            obtain ⟨v1, v2⟩ := hw'.conv
            go_simp
          simp only [List.setIfInBounds_toArray, List.set_cons_zero, List.set_cons_succ]
          refine any_take 9 61 (.pointer (some ⟨H.pb, 0, none⟩)) rfl rfl (by kernel_rfl) (by kernel_rfl) (by kernel_rfl) (fun _ _ _ h => h) (Or.inl ⟨by rfl, ?_⟩) hB5 ?_
          · rintro w' hw'
            obtain ⟨p0, p1, p2, p3, p4, p5⟩ := hw'.cells
            obtain ⟨v1, v2⟩ := hw'.conv
            go_simp
          simp only [List.setIfInBounds_toArray, List.set_cons_zero, List.set_cons_succ]
          refine any_take 10 62 (.pointer (some ⟨H.pb, 4, none⟩)) rfl rfl (by kernel_rfl) (by kernel_rfl) (by kernel_rfl) (fun _ _ _ h => h) (Or.inl ⟨by rfl, ?_⟩) hB5 ?_
          · rintro w' hw'
            obtain ⟨p0, p1, p2, p3, p4, p5⟩ := hw'.cells
            obtain ⟨v1, v2⟩ := hw'.conv
            go_simp
          simp only [List.setIfInBounds_toArray, List.set_cons_zero, List.set_cons_succ]
          refine any_take 11 63 (.slice (some ⟨H.q.g, 0, none⟩) H.q.N H.q.N) rfl rfl (by kernel_rfl) (by kernel_rfl) (by kernel_rfl) (fun _ _ _ h => h) (Or.inl ⟨by rfl, ?_⟩) hB5 ?_
          · rintro w' hw'
            obtain ⟨p0, p1, p2, p3, p4, p5⟩ := hw'.cells
            obtain ⟨v1, v2⟩ := hw'.conv
            go_simp
          simp only [List.setIfInBounds_toArray, List.set_cons_zero, List.set_cons_succ]
          refine any_take 12 64 (.string (strOfNums (at_ S'.f 0 H.q.N))) rfl rfl (by kernel_rfl) (by kernel_rfl) (by kernel_rfl) (fun _ _ _ h => h) (Or.inl ⟨by rfl, ?_⟩) hB5 ?_
          · rintro w' hw'
            obtain ⟨p0, p1, p2, p3, p4, p5⟩ := hw'.cells
            obtain ⟨v1, v2⟩ := hw'.conv
            go_simp
          simp only [List.setIfInBounds_toArray, List.set_cons_zero, List.set_cons_succ]
          refine any_take 13 65 (.pointer (some ⟨H.pb, 0, none⟩)) rfl rfl (by kernel_rfl) (by kernel_rfl) (by kernel_rfl) (fun _ _ _ h => h) (Or.inl ⟨by rfl, ?_⟩) hB5 ?_
          · rintro w' hw'
            obtain ⟨p0, p1, p2, p3, p4, p5⟩ := hw'.cells
            obtain ⟨v1, v2⟩ := hw'.conv
            go_simp
          simp only [List.setIfInBounds_toArray, List.set_cons_zero, List.set_cons_succ]
          refine any_take 14 66 (.pointer (some ⟨H.pb, 0, none⟩)) rfl rfl (by kernel_rfl) (by kernel_rfl) (by kernel_rfl) (fun _ _ _ h => h) (Or.inl ⟨by rfl, ?_⟩) hB5 ?_
          · rintro w' hw'
            obtain ⟨p0, p1, p2, p3, p4, p5⟩ := hw'.cells
            obtain ⟨v1, v2⟩ := hw'.conv
            go_simp
          simp only [List.setIfInBounds_toArray, List.set_cons_zero, List.set_cons_succ]
          refine any_take 15 67 (.pointer (some ⟨H.pb, 5, none⟩)) rfl rfl (by kernel_rfl) (by kernel_rfl) (by kernel_rfl) (fun _ _ _ h => h) (Or.inl ⟨by rfl, ?_⟩) hB5 ?_
          · rintro w' hw'
            obtain ⟨p0, p1, p2, p3, p4, p5⟩ := hw'.cells
            obtain ⟨v1, v2⟩ := hw'.conv
            go_simp
          simp only [List.setIfInBounds_toArray, List.set_cons_zero, List.set_cons_succ]
          refine any_take 16 68 (.slice (some ⟨H.g, 0, none⟩) H.q.N H.q.N) rfl rfl (by kernel_rfl) (by kernel_rfl) (by kernel_rfl) (fun _ _ _ h => h) (Or.inl ⟨by rfl, ?_⟩) hB5 ?_
          · rintro w' hw'
            obtain ⟨p0, p1, p2, p3, p4, p5⟩ := hw'.cells
            obtain ⟨v1, v2⟩ := hw'.conv
            go_simp
          simp only [List.setIfInBounds_toArray, List.set_cons_zero, List.set_cons_succ]
          refine any_take 17 69 (.string (strOfNums (at_ S'.f 0 H.q.N))) rfl rfl (by kernel_rfl) (by kernel_rfl) (by kernel_rfl) (fun _ _ _ h => h) (Or.inl ⟨by rfl, ?_⟩) hB5 ?_
          · rintro w' hw'
            obtain ⟨p0, p1, p2, p3, p4, p5⟩ := hw'.cells
            obtain ⟨v1, v2⟩ := hw'.conv
            go_simp
          simp only [List.setIfInBounds_toArray, List.set_cons_zero, List.set_cons_succ]
          refine any_take 18 70 (.bool false) rfl rfl (by kernel_rfl) (by kernel_rfl) (by kernel_rfl) (fun _ _ _ h => h) (Or.inl ⟨by rfl, ?_⟩) hB5 ?_
          · rintro w' hw'
            obtain ⟨p0, p1, p2, p3, p4, p5⟩ := hw'.cells
            obtain ⟨v1, v2⟩ := hw'.conv
            go_simp
          simp only [List.setIfInBounds_toArray, List.set_cons_zero, List.set_cons_succ]
          refine any_take 19 71 (.bool false) rfl rfl (by kernel_rfl) (by kernel_rfl) (by kernel_rfl) (fun _ _ _ h => h) (Or.inl ⟨by rfl, ?_⟩) hB5 ?_
          · rintro w' hw'
            obtain ⟨p0, p1, p2, p3, p4, p5⟩ := hw'.cells
            obtain ⟨v1, v2⟩ := hw'.conv
            go_simp
          simp only [List.setIfInBounds_toArray, List.set_cons_zero, List.set_cons_succ]
          refine any_take 20 72 (.bool false) rfl rfl (by kernel_rfl) (by kernel_rfl) (by kernel_rfl) (fun _ _ _ h => h) (Or.inl ⟨by rfl, ?_⟩) hB5 ?_
          · rintro w' hw'
            obtain ⟨p0, p1, p2, p3, p4, p5⟩ := hw'.cells
            obtain ⟨v1, v2⟩ := hw'.conv
            go_simp
          simp only [List.setIfInBounds_toArray, List.set_cons_zero, List.set_cons_succ]
          refine any_take 21 73 (.pointer (some ⟨H.pb, 0, none⟩)) rfl rfl (by kernel_rfl) (by kernel_rfl) (by kernel_rfl) (fun _ _ _ h => h) (Or.inl ⟨by rfl, ?_⟩) hB5 ?_
          · rintro w' hw'
            obtain ⟨p0, p1, p2, p3, p4, p5⟩ := hw'.cells
            obtain ⟨v1, v2⟩ := hw'.conv
            go_simp
          simp only [List.setIfInBounds_toArray, List.set_cons_zero, List.set_cons_succ]
          refine any_take 22 74 (.pointer (some ⟨H.pb, 0, none⟩)) rfl rfl (by kernel_rfl) (by kernel_rfl) (by kernel_rfl) (fun _ _ _ h => h) (Or.inl ⟨by rfl, ?_⟩) hB5 ?_
          · rintro w' hw'
            obtain ⟨p0, p1, p2, p3, p4, p5⟩ := hw'.cells
            obtain ⟨v1, v2⟩ := hw'.conv
            go_simp
          simp only [List.setIfInBounds_toArray, List.set_cons_zero, List.set_cons_succ]
          refine any_take 23 75 (.pointer (some ⟨H.pb, 0, none⟩)) rfl rfl (by kernel_rfl) (by kernel_rfl) (by kernel_rfl) (fun _ _ _ h => h) (Or.inl ⟨by rfl, ?_⟩) hB5 ?_
          · rintro w' hw'
            obtain ⟨p0, p1, p2, p3, p4, p5⟩ := hw'.cells
            obtain ⟨v1, v2⟩ := hw'.conv
            go_simp
          simp only [List.setIfInBounds_toArray, List.set_cons_zero, List.set_cons_succ]
          refine any_take 24 76 (.pointer (some ⟨H.pd, 0, none⟩)) rfl rfl (by kernel_rfl) (by kernel_rfl) (by kernel_rfl) (fun _ _ _ h => h) (Or.inl ⟨by rfl, ?_⟩) hB5 ?_
          · rintro w' hw'
            obtain ⟨p0, p1, p2, p3, p4, p5⟩ := hw'.cells
            obtain ⟨v1, v2⟩ := hw'.conv
            go_simp
          simp only [List.setIfInBounds_toArray, List.set_cons_zero, List.set_cons_succ]
          refine any_take 26 78 (.pointer (some ⟨H.pb, 0, none⟩)) rfl rfl (by kernel_rfl) (by kernel_rfl) (by kernel_rfl) (fun _ _ _ h => h) (Or.inl ⟨by rfl, ?_⟩) hB5 ?_
          · rintro w' hw'
            obtain ⟨p0, p1, p2, p3, p4, p5⟩ := hw'.cells
            obtain ⟨v1, v2⟩ := hw'.conv
            go_simp
          simp only [List.setIfInBounds_toArray, List.set_cons_zero, List.set_cons_succ]
          refine any_take 27 79 (.pointer (some ⟨H.pb, 0, none⟩)) rfl rfl (by kernel_rfl) (by kernel_rfl) (by kernel_rfl) (fun _ _ _ h => h) (Or.inl ⟨by rfl, ?_⟩) hB5 ?_
          · rintro w' hw'
            obtain ⟨p0, p1, p2, p3, p4, p5⟩ := hw'.cells
            obtain ⟨v1, v2⟩ := hw'.conv
            go_simp
          simp only [List.setIfInBounds_toArray, List.set_cons_zero, List.set_cons_succ]
          refine any_take 28 80 (.pointer (some ⟨H.pb, 2, none⟩)) rfl rfl (by kernel_rfl) (by kernel_rfl) (by kernel_rfl) (fun _ _ _ h => h) (Or.inl ⟨by rfl, ?_⟩) hB5 ?_
          · rintro w' hw'
            obtain ⟨p0, p1, p2, p3, p4, p5⟩ := hw'.cells
            obtain ⟨v1, v2⟩ := hw'.conv
            go_simp
          simp only [List.setIfInBounds_toArray, List.set_cons_zero, List.set_cons_succ]
          refine any_take 29 81 (.pointer (some ⟨H.px, 0, none⟩)) rfl rfl (by kernel_rfl) (by kernel_rfl) (by kernel_rfl) (fun _ _ _ h => h) (Or.inl ⟨by rfl, ?_⟩) hB5 ?_
          · rintro w' hw'
            obtain ⟨p0, p1, p2, p3, p4, p5⟩ := hw'.cells
            obtain ⟨v1, v2⟩ := hw'.conv
            go_simp
          simp only [List.setIfInBounds_toArray, List.set_cons_zero, List.set_cons_succ]
          refine any_one 25 (by kernel_rfl) ?_
          refine op_callE 77 (f := 12) (args := #[.pointer (some ⟨H.pd, 0, none⟩)]) rfl (by rfl) rfl (by go_simp) (hB5.free1.mono (fun e w' h => (⟨.int .i64 S'.A.free.length, h.1, rfl, h.2⟩ : ∃ v, e = .returned v ∧ (v = .int .i64 S'.A.free.length ∧ w' = w5)))) ?_
          rintro v wx ⟨rfl, rfl⟩
          refine ⟨hB5, ?_⟩
          simp only [List.setIfInBounds_toArray, List.set_cons_zero, List.set_cons_succ]
          refine any_one 30 (by kernel_rfl) ?_
          refine op_callE 82 (f := 13) (args := #[.pointer (some ⟨H.px, 0, none⟩)]) rfl (by rfl) rfl (by go_simp) (hB5.free2.mono (fun e w' h => (⟨.int .i64 S'.A.free.length, h.1, rfl, h.2⟩ : ∃ v, e = .returned v ∧ (v = .int .i64 S'.A.free.length ∧ w' = wx)))) ?_
          rintro v wy ⟨rfl, rfl⟩
          refine ⟨hB5, ?_⟩
          simp only [List.setIfInBounds_toArray, List.set_cons_zero, List.set_cons_succ]
          refine any_take 31 83 (.bool false) rfl rfl (by kernel_rfl) (by kernel_rfl) (by kernel_rfl) (fun _ _ _ h => h) (Or.inl ⟨by rfl, ?_⟩) hB5 ?_
          · rintro w' hw'
            obtain ⟨p0, p1, p2, p3, p4, p5⟩ := hw'.cells
            obtain ⟨v1, v2⟩ := hw'.conv
            go_simp
          simp only [List.setIfInBounds_toArray, List.set_cons_zero, List.set_cons_succ]
          refine any_take 32 84 (.bool false) rfl rfl (by kernel_rfl) (by kernel_rfl) (by kernel_rfl) (fun _ _ _ h => h) (Or.inl ⟨by rfl, ?_⟩) hB5 ?_
          · rintro w' hw'
            obtain ⟨p0, p1, p2, p3, p4, p5⟩ := hw'.cells
            obtain ⟨v1, v2⟩ := hw'.conv
            go_simp
          simp only [List.setIfInBounds_toArray, List.set_cons_zero, List.set_cons_succ]
          refine any_take 33 85 (.bool false) rfl rfl (by kernel_rfl) (by kernel_rfl) (by kernel_rfl) (fun _ _ _ h => h) (Or.inl ⟨by rfl, ?_⟩) hB5 ?_
          · rintro w' hw'
            obtain ⟨p0, p1, p2, p3, p4, p5⟩ := hw'.cells
            obtain ⟨v1, v2⟩ := hw'.conv
            go_simp
          simp only [List.setIfInBounds_toArray, List.set_cons_zero, List.set_cons_succ]
          refine any_take 34 86 (.pointer (some ⟨H.pb, 0, none⟩)) rfl rfl (by kernel_rfl) (by kernel_rfl) (by kernel_rfl) (fun _ _ _ h => h) (Or.inl ⟨by rfl, ?_⟩) hB5 ?_
          · rintro w' hw'
            obtain ⟨p0, p1, p2, p3, p4, p5⟩ := hw'.cells
            obtain ⟨v1, v2⟩ := hw'.conv
            go_simp
          simp only [List.setIfInBounds_toArray, List.set_cons_zero, List.set_cons_succ]
          refine any_take 35 87 (.pointer (some ⟨H.pb, 0, none⟩)) rfl rfl (by kernel_rfl) (by kernel_rfl) (by kernel_rfl) (fun _ _ _ h => h) (Or.inl ⟨by rfl, ?_⟩) hB5 ?_
          · rintro w' hw'
            obtain ⟨p0, p1, p2, p3, p4, p5⟩ := hw'.cells
            obtain ⟨v1, v2⟩ := hw'.conv
            go_simp
          simp only [List.setIfInBounds_toArray, List.set_cons_zero, List.set_cons_succ]
          refine any_take 36 88 (.pointer (some ⟨H.pb, 0, none⟩)) rfl rfl (by kernel_rfl) (by kernel_rfl) (by kernel_rfl) (fun _ _ _ h => h) (Or.inl ⟨by rfl, ?_⟩) hB5 ?_
          · rintro w' hw'
            obtain ⟨p0, p1, p2, p3, p4, p5⟩ := hw'.cells
            obtain ⟨v1, v2⟩ := hw'.conv
            go_simp
          simp only [List.setIfInBounds_toArray, List.set_cons_zero, List.set_cons_succ]
          refine any_take 37 89 (.pointer (some ⟨H.pd, 0, none⟩)) rfl rfl (by kernel_rfl) (by kernel_rfl) (by kernel_rfl) (fun _ _ _ h => h) (Or.inl ⟨by rfl, ?_⟩) hB5 ?_
          · rintro w' hw'
            obtain ⟨p0, p1, p2, p3, p4, p5⟩ := hw'.cells
            obtain ⟨v1, v2⟩ := hw'.conv
            go_simp
          simp only [List.setIfInBounds_toArray, List.set_cons_zero, List.set_cons_succ]
          refine any_take 39 91 (.pointer (some ⟨H.pb, 0, none⟩)) rfl rfl (by kernel_rfl) (by kernel_rfl) (by kernel_rfl) (fun _ _ _ h => h) (Or.inl ⟨by rfl, ?_⟩) hB5 ?_
          · rintro w' hw'
            obtain ⟨p0, p1, p2, p3, p4, p5⟩ := hw'.cells
            obtain ⟨v1, v2⟩ := hw'.conv
            go_simp
          simp only [List.setIfInBounds_toArray, List.set_cons_zero, List.set_cons_succ]
          refine any_take 40 92 (.pointer (some ⟨H.pb, 0, none⟩)) rfl rfl (by kernel_rfl) (by kernel_rfl) (by kernel_rfl) (fun _ _ _ h => h) (Or.inl ⟨by rfl, ?_⟩) hB5 ?_
          · rintro w' hw'
            obtain ⟨p0, p1, p2, p3, p4, p5⟩ := hw'.cells
            obtain ⟨v1, v2⟩ := hw'.conv
            go_simp
          simp only [List.setIfInBounds_toArray, List.set_cons_zero, List.set_cons_succ]
          refine any_take 41 93 (.pointer (some ⟨H.pb, 2, none⟩)) rfl rfl (by kernel_rfl) (by kernel_rfl) (by kernel_rfl) (fun _ _ _ h => h) (Or.inl ⟨by rfl, ?_⟩) hB5 ?_
          · rintro w' hw'
            obtain ⟨p0, p1, p2, p3, p4, p5⟩ := hw'.cells
            obtain ⟨v1, v2⟩ := hw'.conv
            go_simp
          simp only [List.setIfInBounds_toArray, List.set_cons_zero, List.set_cons_succ]
          refine any_take 42 94 (.pointer (some ⟨H.px, 0, none⟩)) rfl rfl (by kernel_rfl) (by kernel_rfl) (by kernel_rfl) (fun _ _ _ h => h) (Or.inl ⟨by rfl, ?_⟩) hB5 ?_
          · rintro w' hw'
            obtain ⟨p0, p1, p2, p3, p4, p5⟩ := hw'.cells
            obtain ⟨v1, v2⟩ := hw'.conv
            go_simp
          simp only [List.setIfInBounds_toArray, List.set_cons_zero, List.set_cons_succ]
          refine any_one 38 (by kernel_rfl) ?_
          refine op_callE 90 (f := 15) (args := #[.pointer (some ⟨H.pd, 0, none⟩)]) rfl (by rfl) rfl (by go_simp) (hB5.fly1 (by omega)) ?_
          rintro v6 w6 ⟨L, hL, hown6, hb6⟩
          have hB6 := hB5.below hb6
          refine ⟨hB6, ?_⟩
          simp only [List.setIfInBounds_toArray, List.set_cons_zero, List.set_cons_succ]
          refine any_one 43 (by kernel_rfl) ?_
          refine op_callE 95 (f := 16) (args := #[.pointer (some ⟨H.px, 0, none⟩)]) rfl (by rfl) rfl (by go_simp) (hB6.fly2 L hL) ?_
          rintro v7 w7 ⟨hown7, hb7⟩
          have hB7 := hB6.below hb7
          refine ⟨hB7, ?_⟩
          simp only [List.setIfInBounds_toArray, List.set_cons_zero, List.set_cons_succ]
          obtain ⟨a6, c6, hv6, hi6⟩ := owns_cints hown6
          obtain ⟨a7, c7, hv7, hi7⟩ := owns_cints hown7
          subst hv6 hv7
          have hi67 : CInts w7 a6 L := hi6.keep (fun b off _ hb => hb7.block b hb)
          refine any_one 44 (by kernel_rfl) ?_
          refine op_callE 96 (f := 14) (args := #[.slice a6 L.length c6, .slice a7 L.length c7]) rfl (by rfl) rfl (by go_simp) ((sameInts_same w7 a6 a7 c6 c7 L (by have := hB5.fly_len hL; omega) hi67 hi7).mono (fun e w' h => (⟨.bool true, h.1, rfl, h.2⟩ : ∃ v, e = .returned v ∧ (v = .bool true ∧ ∃ q, w' = w7.drewN q)))) ?_
          rintro v w8 ⟨rfl, qd, hw8⟩
          have hB8 : Both (Z0 w1) w1 w8 H (c + 1) S' S' T' := by rw [hw8]; exact hB7.below (below_drewN (Below.refl _ _) _)
          clear hw8
          refine ⟨hB8, ?_⟩
          simp only [List.setIfInBounds_toArray, List.set_cons_zero, List.set_cons_succ]
          refine any_take 45 97 (.bool false) rfl rfl (by kernel_rfl) (by kernel_rfl) (by kernel_rfl) (fun _ _ _ h => h) (Or.inl ⟨by rfl, ?_⟩) hB8 ?_
          · rintro w' hw'
            obtain ⟨p0, p1, p2, p3, p4, p5⟩ := hw'.cells
            obtain ⟨v1, v2⟩ := hw'.conv
            go_simp
          simp only [List.setIfInBounds_toArray, List.set_cons_zero, List.set_cons_succ]
          refine any_take 46 98 (.bool false) rfl rfl (by kernel_rfl) (by kernel_rfl) (by kernel_rfl) (fun _ _ _ h => h) (Or.inl ⟨by rfl, ?_⟩) hB8 ?_
          · rintro w' hw'
            obtain ⟨p0, p1, p2, p3, p4, p5⟩ := hw'.cells
            obtain ⟨v1, v2⟩ := hw'.conv
            go_simp
          simp only [List.setIfInBounds_toArray, List.set_cons_zero, List.set_cons_succ]
          refine wpAnyH_done (by kernel_rfl) ?_ _
          have HB8 := hid hB8
          clear hB5 hB6 hB7 hB8 hown6 hown7 hi6 hi7 hi67 hb6 hb7
          go_wp2
          go_roundw
          case rel => exact ⟨k + 1, by omega, by omega, by go_num, c + 1, S', T', by omega, by omega, HB8.out⟩
          case measure => simp only [RowKit.intOf]; omega
        · have h300i : (300 : Int) < (q.l.length : Int) := by omega
          have h300n : 300 < q.l.length := by omega
          go_wp2
          go_roundw
          case rel => exact ⟨k + 1, by omega, by omega, by go_num, c, S, T, by omega, by omega, HBo.out⟩
          case measure => simp only [RowKit.intOf]; omega
      · by_cases hlt1 : k < cl
        · have hki : (k : Int) < (cl : Int) := by omega
          have hki2 : ¬ ((k : Int) < 120) := by omega
          clear hlt
          go_wp2
          go_ret
          exact ⟨rfl, HB1.out.trans (HBEL.out.mono HB1.out.size)⟩
        · have hki : ¬ ((k : Int) < (cl : Int)) := by omega
          clear hlt
          go_wp2
          go_ret
          exact ⟨rfl, HB1.out.trans (HBEL.out.mono HB1.out.size)⟩
end Go.Proofs.Ytjnhcbompgmknaa
