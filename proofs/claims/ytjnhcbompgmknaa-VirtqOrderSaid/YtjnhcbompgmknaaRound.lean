/- VirtqRound: through any number of chains nothing is lost. -/
import Derived.Test.YtjnhcbompgmknaaKnown
namespace Go.Proofs.Ytjnhcbompgmknaa
open Go.RowKit

theorem sh_pow (k : Int) (h0 : 0 ≤ k) (h1 : k < 6) : ∃ n : Nat, wrap64 (2 ^ k.toNat) = (n : Int) ∧ pow2 n = true ∧ 1 ≤ n ∧ n ≤ 32 := by
  rcases (show k = 0 ∨ k = 1 ∨ k = 2 ∨ k = 3 ∨ k = 4 ∨ k = 5 by omega) with rfl | rfl | rfl | rfl | rfl | rfl
  · exact ⟨1, by decide +kernel, by decide, by decide, by decide⟩
  · exact ⟨2, by decide +kernel, by decide, by decide, by decide⟩
  · exact ⟨4, by decide +kernel, by decide, by decide, by decide⟩
  · exact ⟨8, by decide +kernel, by decide, by decide, by decide⟩
  · exact ⟨16, by decide +kernel, by decide, by decide, by decide⟩
  · exact ⟨32, by decide +kernel, by decide, by decide, by decide⟩
theorem make_mem (n : Nat) (hn : n ≤ 256) (W : World) : (Instr.makeSlice 36 (.int .i64 (8 + 26 * (n : Int))) (.int .i64 (8 + 26 * (n : Int)))).run Try.prog W = .ok (.slice (some ⟨W.heap.size, 0, none⟩) (8 + 26 * n) (8 + 26 * n)) (W.alloc (.cells (madeCells #[.int .u8 0] (8 + 26 * n)) 5)) := by
  have hmk := run_make_row' (P := Try.prog) 36 5 (.int .u8 0) 1 Try.underlying36 info5 rfl .i64 .i64 (8 + 26 * n) (by omega) (by omega) W
  rw [show ((8 + 26 * n : Nat) : Int) = 8 + 26 * (n : Int) by omega] at hmk
  exact hmk
/-- Both sides, made at the head of new memory. -/
theorem made0 (B : Nat) (w0 w : World) (n : Nat) (hp : pow2 n = true) (h1 : 1 ≤ n) (h2 : n ≤ 256) (hbel : Below B w0 w) (hB : B ≤ w.heap.size) :
    Calls Try.prog 18 #[.slice (some ⟨w.heap.size, 0, none⟩) (8 + 26 * n) (8 + 26 * n), .int .i64 0, .int .i64 n] (w.alloc (.cells (madeCells #[.int .u8 0] (8 + 26 * n)) 5)) fun e w1 => ∃ pd, e = .returned (.tuple #[.pointer (some ⟨pd, 0, none⟩), .int .i64 0]) ∧
    Calls Try.prog 19 #[.slice (some ⟨w.heap.size, 0, none⟩) (8 + 26 * n) (8 + 26 * n), .int .i64 0, .int .i64 n] w1 fun e w2 => ∃ pv, e = .returned (.tuple #[.pointer (some ⟨pv, 0, none⟩), .int .i64 0]) ∧
      ∃ (q : Qu) (f : Nat → Int), q.n = n ∧ Run B w0 w2 (fun _ => False) pd pv q (A0 q.n) 0 f 0 0 ∧ Sane q f (A0 q.n) 0 [] := by
  have hcon := made B w0 (w.alloc (.cells (madeCells #[.int .u8 0] (8 + 26 * n)) 5)) (qu w.heap.size n (8 + 26 * n) h1 h2 (by omega) (by omega)) (8 + 26 * n) (8 + 26 * n) (fun _ => 0) (hbel.alloc hB _) (by simp; omega) hB (mem_made w (8 + 26 * n)) hp (by show 0 + (8 + 26 * n) ≤ 8 + 26 * n; omega) (Nat.le_refl _) (by omega)
  refine hcon.mono ?_
  rintro e w1 ⟨pd, rfl, hc1⟩
  refine ⟨pd, rfl, ?_⟩
  refine hc1.mono ?_
  rintro e w2 ⟨pv, rfl, hrun⟩
  exact ⟨pv, rfl, _, _, rfl, hrun, Sane.of_zr _ (fun _ => 0) hp⟩
theorem Sane.all_free {q : Qu} {f : Nat → Int} {A : Abs} {vo : Nat} (h : Sane q f A vo []) : A.free.length = q.n := by
  have h1 := h.wf.len
  rw [h.fl] at h1
  simpa using h1

set_option maxRecDepth 100000 in
set_option maxHeartbeats 4000000 in
theorem round_any (w : World) (x r : Int) : Calls Try.prog 5 #[.int .i64 x, .int .i64 r] w fun e w' => e = .returned (.bool true) ∧ Below w.heap.size w w' := by
  have hb := wi_bd x 4 (by omega)
  have hR := wi_bd r 65560 (by omega)
  generalize hk : wi x 4 = k at *
  generalize hrr : wi r 65560 = R at *
  have HK := hid hk
  have HR := hid hrr
  clear hk hrr
  obtain ⟨n, hsh, hp, n1, n2⟩ := sh_pow k hb.1 (by omega)
  have HP := hid hp
  have hmk := make_mem n (by omega)
  clear hp
  go_enter Try.func5, Try.ntmps5
  go_wp2_with (first
    | (go_at_call 7; refine (known_any w).mono ?_; rintro e w1 ⟨rfl, hb1⟩; have HB1 := hid hb1; clear hb1)
    | (go_at_call 17; refine (within_any x 4 (by omega) (by omega) w1).mono ?_; rintro e w2 ⟨rfl, hw2⟩; rw [hw2, HK.out]; clear hw2 w2)
    | (go_at_call 8; refine (Size_yes w1 n HP.out).mono ?_; rintro e w2 ⟨rfl, hw2⟩; rw [hw2]; clear hw2 w2)
    | (go_at_call 18; refine (made0 w.heap.size w w1 n HP.out n1 (by omega) HB1.out HB1.out.size).mono ?_; rintro e w3 ⟨pd, rfl, hc3⟩; have HC3 := hid hc3; clear hc3)
    | (go_at_call 19; refine HC3.out.mono ?_; rintro e w4 ⟨pv, rfl, q, f, hqn, hrun, hsane⟩; have HRUN := hid hrun; have HSANE := hid hsane; have HQN := hid hqn; clear hqn hrun hsane))
  go_loopw [10] (fun z wr => ∃ (i : Nat) (A : Abs) (f : Nat → Int) (o : Nat), (i : Int) ≤ R ∧ z = .int .i64 i ∧ Run w.heap.size w wr (fun _ => False) pd pv q A i f o A.uses ∧ Sane q f A o []) (fun z _ => (R - RowKit.intOf z).toNat)
  case atStart => exact ⟨0, A0 q.n, f, 0, by omega, rfl, HRUN.out, HSANE.out⟩
  case round =>
    obtain ⟨i, A, f, o, hi, rfl, hrun, hsane⟩ := hrel
    clear HRUN HSANE HC3 hmk hsh
    by_cases hlt : (i : Int) < R
    · have hfree := hsane.all_free
      have hgl := hrun.mem.lt
      have hok : ∀ b ∈ [Bf.mk i 1 false], okB b := fun b hb => by simp at hb; subst hb; unfold okB; simp; omega
      have hc1 := hrun.add (wr.alloc (.cells (cellsB [⟨i, 1, false⟩]).toArray 51)) ((Below.refl _ _).alloc (Nat.le_refl _) _) (some ⟨wr.heap.size, 0, none⟩) 1 1 [⟨i, 1, false⟩] rfl (bufs_new wr _ q.g hgl) (fun b off e => by simp at e; omega) hok (by omega) (by rw [hfree, HQN.out]; exact n1) (by omega)
      have hsan1 := hsane.add [⟨i, 1, false⟩] (by simp) (by rw [hfree, HQN.out]; exact n1) hok (fun b hb => by simp at hb; subst hb; simp; omega)
      rw [List.nil_append] at hsan1
      have hu0 : (AddA A 1).uses = A.uses := rfl
      have hcl : (A.free.take 1).getD 0 0 = A.free.getD 0 0 := take_getD _ _ _ (by omega)
      simp only [List.length_cons, List.length_nil, Nat.zero_add] at hsan1
      generalize hA1 : AddA A 1 = A1 at *
      generalize addF f q A [⟨i, 1, false⟩] = f1 at *
      generalize A.free.take 1 = ch at *
      obtain ⟨a1, a2, a3, a4, a5, a6, a7⟩ := hsan1.head
      simp only at a1 a2 a3 a4 a5 a6 a7
      rw [hcl] at a2 a3 a4
      obtain ⟨b1, hsan2⟩ := hsan1.pop 1 (by omega) (by omega)
      simp only at b1 hsan2
      rw [hcl] at b1 hsan2
      have hus := hrun.wf.u
      generalize hh0 : A.free.getD 0 0 = hd at *
      obtain ⟨c1, c2, c3⟩ := given_rd f1 q A1.uses hd 1 (by omega) (by have := q.geo.n2; omega) (by omega) (by omega)
      have HC1 := hid hc1
      have HTK := hid (And.intro a1 (And.intro a2 a4))
      have HPOP := hid (And.intro b1 hsan2)
      have HGV := hid (And.intro c1 (And.intro c2 c3))
      have HU0 := hid hu0
      have hgb : giveB q.n hd 1 = true := by simp [giveB, lenB]; omega
      have HGB := hid hgb
      have HUS := hid hus
      clear hrun hsane hc1 hsan1 hA1 hcl a1 a2 a3 a4 a5 a6 a7 b1 hsan2 c1 c2 c3 hu0 hok hfree hh0 hgb hus
      have ei : IntKind.i64.wrap ((i : Int) + 1) = (i : Int) + 1 := IntWalk.i64_in _ (by omega)
      go_wp2_with (first
        | (go_at_call 17; refine (within_any r 65560 (by omega) (by omega) wr).mono ?_; rintro e w2 ⟨rfl, hw2⟩; rw [hw2, HR.out]; clear hw2 w2)
        | (go_at_call 20; refine HC1.out.mono ?_; rintro e w5 ⟨rfl, hr5, _⟩; have HR5 := hid hr5; clear hr5)
        | (go_at_call 21; refine (HR5.out.take_some HTK.out.1 hd HTK.out.2.1 _ HTK.out.2.2).mono ?_; rintro e w6 ⟨v6, rfl, ho6, hr6, _⟩; obtain ⟨vb, vc, rfl, hvc1, _, _, hcells⟩ := ownsB_open ho6 (by simp); have hcv : w6.cell? ⟨vb, 0, none⟩ = some (.int .i64 i) := (hcells 0 (by simp)).1; have HCV := hid hcv; have HR6 := hid hr6; clear hr6 ho6 hcells hcv)
        | (go_at_call 22; refine (HR6.out.give hd 1 HGB.out).mono ?_; rintro e w7 ⟨rfl, hr7, hk7⟩; have HCV7 := hid (cell_kept hk7 (b := vb) (.inr rfl) HCV.out); have HR7 := hid hr7; clear hr7 hk7)
        | (go_at_call 23; rw [← HU0.out] at HR7; refine (HR7.out.used_some (by rw [HGV.out.1]; have := HUS.out; have := HU0.out; omega) hd 1 HGV.out.2.1 HGV.out.2.2 ch HPOP.out.1).mono ?_; rintro e w8 ⟨rfl, hr8, hk8⟩; have hcv8 := cell_kept hk8 (b := vb) (.inr rfl) HCV7.out; have HR8 := hid hr8; clear hr8 hk8))
      refine ⟨⟨i + 1, UseA A1 hd ch, given f1 q.pu q.n A1.uses hd 1, (o + 1) % 65536, by omega, by go_num, HR8.out.less (fun b hb => hb.elim), HPOP.out.2⟩, ?_⟩
      simp only [RowKit.intOf]
      omega
    · have hlt' : ¬ ((i : Int) < R) := hlt
      have hfree := hsane.all_free
      have HF := hid (hfree.trans HQN.out)
      have HRUN := hid hrun
      clear hrun hsane hfree
      go_wp2_with (first
        | (go_at_call 17; refine (within_any r 65560 (by omega) (by omega) wr).mono ?_; rintro e w2 ⟨rfl, hw2⟩; rw [hw2, HR.out]; clear hw2 w2)
        | (go_at_call 12; refine HRUN.out.free.mono ?_; rintro e w5 ⟨rfl, hw5⟩; rw [hw5, HF.out]; clear hw5 w5))
      go_ret
      exact ⟨rfl, HRUN.out.bel.1⟩
end Go.Proofs.Ytjnhcbompgmknaa
