/- share, NewDevice: a queue in memory. -/
import Derived.Test.YtpmbknlafeljlaaMemC
namespace Go.Proofs.Ytpmbknlafeljlaa
open Go.RowKit

theorem setc {w : World} {b : Nat} {c : Array Value} {t : TypeId} (h : w.heap[b]? = some (.cells c t (0, 0))) (k : Nat) (v : Value) : (w.setCell ⟨b, k, none⟩ v).heap[b]? = some (.cells (c.setIfInBounds k v) t (0, 0)) := by
  have hl : b < w.heap.size := (Array.getElem?_eq_some_iff.1 h).1
  have h' : w.heap[b] = .cells c t (0, 0) := (Array.getElem?_eq_some_iff.1 h).2
  simp [World.setCell, hl, Array.getElem_modify, h']
theorem results_c2 {fn : Func} {t u : Tmp} {ty : TypeId} (h : fn.results = #[.cell t ty, .tmp u]) (tmps : Array Value) (w : World) (g : Nat) (cs : Array Value) (t' : TypeId) (fs : _) (hp : tmps.getD t undef = .pointer (some ⟨g, 0, none⟩))
    (hg : w.heap[g]? = some (.cells cs t' (0, 0))) (hu : Try.prog.underlying ty = some (.struct fs)) (hi : (Try.prog.info? ty).map (·.size) = some cs.size) :
    (results fn tmps).run Try.prog w = .ok (.tuple #[.agg cs, tmps.getD u undef]) w := by
  have hl := run_loadVar_row (P := Try.prog) w g t' ty cs (0, 0) _ hg hu rfl hi
  have hp' : tmps[t]?.getD undef = .pointer (some ⟨g, 0, none⟩) := by simpa using hp
  simp [results, h, hp', asAddr, hl]
theorem size76 : (Try.prog.info? 87).map (·.size) = some 8 := by kernel_rfl

set_option maxRecDepth 100000 in
set_option maxHeartbeats 1000000 in
theorem share_ok (w : World) (g len cap base n N po pu Ld Lo Lu : Nat) (hp : pow2 n = true) (hf : base + (8 + 26 * n) ≤ len) (hc : len ≤ cap) (hl : len ≤ 1099511627776) (G : Geo base n N po pu Ld Lo Lu) :
    Calls Try.prog 52 #[.slice (some ⟨g, 0, none⟩) len cap, .int .i64 base, .int .i64 n] w fun e w' => e = .returned (.tuple #[.agg (memC g base n po pu Ld Lo Lu).toArray, .int .i64 0]) ∧ Below w.heap.size w w' := by
  obtain ⟨n1, n2, epo, epu, eLd, eLo, eLu, h1, h2⟩ := G
  have E := hid (And.intro epo (And.intro epu (And.intro eLd (And.intro eLo eLu))))
  have HP := hid hp
  have g0 : ((8 : Int) + 26 * n == 0) = false := by rw [beq_eq_false_iff_ne]; omega
  have g1 : decide ((base : Int) < 0) = false := by simp
  have g2 : IntKind.i64.wrap ((len : Int) - (8 + 26 * n)) = (len : Int) - (8 + 26 * n) := IntWalk.i64_in _ (by omega)
  have g3 : decide ((len : Int) - (8 + 26 * n) < base) = false := by simp; omega
  have g4 : IntKind.i64.wrap ((n : Int) * 16) = (n : Int) * 16 := IntWalk.i64_in _ (by omega)
  have hb := cutL_run g 0 len cap base (by omega)
  rw [behind_more g 0 len cap base (by omega), Nat.zero_add] at hb
  clear epo epu eLd eLo eLu hp
  unfold memC
  go_enter Try.func52, Try.ntmps52
  go_wp2_with fail
  refine (Size_yes _ n HP.out).mono ?_
  rintro e w' ⟨rfl, rfl⟩
  go_wp2_with fail
  refine (cut_any _ g base (len - base) (cap - base) ((n : Int) * 16) (16 * n) (by omega) (by omega) (by omega) (by omega)).mono ?_
  rintro e w' ⟨rfl, q1, rfl⟩
  rw [behind_more g base (len - base) (cap - base) (16 * n) (by omega)]
  go_wp2_with fail
  refine (ringSize_any _ n 2 (n * 2) rfl (by omega)).mono ?_
  rintro e w' ⟨rfl, rfl⟩
  go_wp2_with fail
  refine (cut_any _ g (base + 16 * n) (len - base - 16 * n) (cap - base - 16 * n) (4 + (n : Int) * 2) (4 + 2 * n) (by omega) (by omega) (by omega) (by omega)).mono ?_
  rintro e w' ⟨rfl, q2, rfl⟩
  rw [behind_more g _ _ _ (4 + 2 * n) (by omega)]
  go_wp2_with fail
  refine (ringSize_any _ n 8 (n * 8) rfl (by omega)).mono ?_
  rintro e w' ⟨rfl, rfl⟩
  go_wp2_with fail
  refine (cut_any _ g (base + 16 * n + (4 + 2 * n)) (len - base - 16 * n - (4 + 2 * n)) (cap - base - 16 * n - (4 + 2 * n)) (4 + (n : Int) * 8) (4 + 8 * n) (by omega) (by omega) (by omega) (by omega)).mono ?_
  rintro e w' ⟨rfl, q3, rfl⟩
  generalize behind g _ _ _ _ = bh
  go_wp2
  obtain ⟨e1, e2, e3, e4, e5⟩ := E.out
  have hh := (MapKept.heap_alloc w (.cells #[.int .i64 0, .slice none 0 0, .slice none 0 0, .int .i64 0, .int .i64 0, .slice none 0 0, .int .i64 0, .int .i64 0] 87)).1
  have hw := setc (setc (setc (setc (setc (setc (setc (setc (w := (w.alloc (.cells #[.int .i64 0, .slice none 0 0, .slice none 0 0, .int .i64 0, .int .i64 0, .slice none 0 0, .int .i64 0, .int .i64 0] 87)).drewN (q1 + q2 + q3)) hh 0 (.int .i64 n)) 1 (.slice (some ⟨g, base, none⟩) (16 * n) (16 * n))) 2 (.slice (some ⟨g, base + 16 * n, none⟩) (4 + 2 * n) (4 + 2 * n))) 3 (.int .i64 n)) 4 (.int .i64 2)) 5 (.slice (some ⟨g, base + 16 * n + (4 + 2 * n), none⟩) (4 + 8 * n) (4 + 8 * n))) 6 (.int .i64 n)) 7 (.int .i64 8)
  refine bodyPost_ret (results_c2 rfl _ _ _ _ _ _ rfl hw Try.underlying87 size76) rfl ⟨?_, ?_⟩
  · rw [e1, e2, e3, e4, e5, show base + 18 * n + 4 = base + 16 * n + (4 + 2 * n) by omega]
    rfl
  · exact ((((((((below_drewN ((Below.refl _ w).alloc (Nat.le_refl _) _) _).setCell (Nat.le_refl _) _).setCell (Nat.le_refl _) _).setCell (Nat.le_refl _) _).setCell (Nat.le_refl _) _).setCell (Nat.le_refl _) _).setCell (Nat.le_refl _) _).setCell (Nat.le_refl _) _).setCell (Nat.le_refl _) _
end Go.Proofs.Ytpmbknlafeljlaa
