/- Any call of both sides; what the law asks behind it. -/
import Derived.Test.YtjnhcbompgmknaaBothG
namespace Go.Proofs.Ytjnhcbompgmknaa
open Go.RowKit

structure Cl where
  kind : Int
  n : Int
  m : Int
  a : Option Addr
  l : List Bf
  cap : Nat
  deriving Inhabited
def clV (c : Cl) : Value := .agg #[.int .i64 c.kind, .int .i64 c.n, .int .i64 c.m, .slice c.a c.l.length c.cap]
/-- A call as it lies in the arguments. -/
def ClOk (w : World) (c : Cl) : Prop := Is64 c.m ∧ CBufs w c.a c.l ∧ (c.a = none → c.cap = 0) ∧ ∀ b ∈ c.l, Is64 b.addr ∧ Is64 b.len
theorem do_any {w0 w : World} {H : Hd} {c : Nat} {S : Sd} {T : List Int} (h : Both (Z0 w0) w0 w H c S S T) (hc : c < 1099511627776) (hT : T.length ≤ 65000) (cl : Cl) (ho : ClOk w0 cl) (hl : cl.l.length ≤ 300) :
    Calls Try.prog 11 #[.pointer (some ⟨H.pb, 0, none⟩), clV cl] w fun e w' => e = .returned (.bool true) ∧ ∃ S' T', Both (Z0 w0) w0 w' H (c + 1) S' S' T' ∧ T'.length ≤ T.length + 1 := by
  obtain ⟨kind, n, m, a, l, cap⟩ := cl
  obtain ⟨o1, o2, o3, o4⟩ := ho
  unfold clV
  simp only at o1 o2 o3 o4 hl ⊢
  by_cases k1 : kind = 1
  · subst k1; exact do_add h hc n m a cap l o2 o3 o4 hl
  · by_cases k2 : kind = 2
    · subst k2; exact do_take h hT n m a l.length cap
    · by_cases k3 : kind = 3
      · subst k3; exact do_give h n m o1 a l.length cap
      · by_cases k4 : kind = 4
        · subst k4; exact do_used h n m a l.length cap
        · by_cases k5 : kind = 5
          · subst k5; exact do_poke h n m a l.length cap
          · exact do_else h kind n m a l.length cap k1 k2 k3 k4 k5

section
variable {w0 w : World} {H : Hd} {c : Nat} {S : Sd} {T : List Int}
theorem Both.conv (h : Both (Z0 w0) w0 w H c S S T) : (convert 36 9 (.slice (some ⟨H.q.g, 0, none⟩) H.q.N H.q.N)).run Try.prog w = .ok (.string (strOfNums (at_ S.f 0 H.q.N))) w ∧ (convert 36 9 (.slice (some ⟨H.g, 0, none⟩) H.q.N H.q.N)).run Try.prog w = .ok (.string (strOfNums (at_ S.f 0 H.q.N))) w := by
  obtain ⟨vt, al, ar, lab, b, _⟩ := h
  exact ⟨Mem.conv b.mem (Nat.le_refl _), Mem.conv b.rmem (Nat.le_refl _)⟩
theorem Both.free1 (h : Both (Z0 w0) w0 w H c S S T) : Calls Try.prog 12 #[.pointer (some ⟨H.pd, 0, none⟩)] w fun e w' => e = .returned (.int .i64 S.A.free.length) ∧ w' = w := by
  obtain ⟨vt, al, ar, lab, b, _⟩ := h
  exact Free_any w H.pd H.q S.A c al b.drv
theorem Both.free2 (h : Both (Z0 w0) w0 w H c S S T) : Calls Try.prog 13 #[.pointer (some ⟨H.px, 0, none⟩)] w fun e w' => e = .returned (.int .i64 S.A.free.length) ∧ w' = w := by
  have hwf := h.wf
  obtain ⟨vt, al, ar, lab, b, _⟩ := h
  exact rFree_any w H.px H.g H.q S.A ar b.rdrv hwf
theorem Both.fly1 (h : Both (Z0 w0) w0 w H c S S T) (hc : c ≤ 1099511627776) : Calls Try.prog 15 #[.pointer (some ⟨H.pd, 0, none⟩)] w fun e w' => ∃ v, e = .returned v ∧ ∃ L : List Int, Flies S.A L ∧ w'.ownsRow w.heap.size 3 1 v L.length (L.map encZ) ∧ Below w.heap.size w w' := by
  obtain ⟨vt, al, ar, lab, b, _⟩ := h
  refine (Flying_any w H.pd H.q S.A c al b.drv hc).mono ?_
  rintro e w' ⟨v, L, rfl, h1, h2, h3⟩
  exact ⟨v, rfl, L, h1, h2, h3⟩
theorem Both.fly2 (h : Both (Z0 w0) w0 w H c S S T) (L : List Int) (hL : Flies S.A L) : Calls Try.prog 16 #[.pointer (some ⟨H.px, 0, none⟩)] w fun e w' => ∃ v, e = .returned v ∧ w'.ownsRow w.heap.size 3 1 v L.length (L.map encZ) ∧ Below w.heap.size w w' := by
  have hwf := h.wf
  obtain ⟨vt, al, ar, lab, b, _⟩ := h
  exact rHeads_any w H.px H.g H.q S.A ar b.rdrv hwf L hL
end
theorem Both.fly_len {w0 w : World} {H : Hd} {c : Nat} {S : Sd} {T : List Int} (h : Both (Z0 w0) w0 w H c S S T) {L : List Int} (hL : Flies S.A L) : L.length ≤ 65536 := by
  have hwf := h.wf
  obtain ⟨vt, al, ar, lab, b, _⟩ := h
  obtain ⟨gt, vf, F, d⟩ := b.rdrv
  have hfl := d.fl.len
  have hfn := hwf.fl_len
  have hn2 := H.q.geo.n2
  have hnd := hwf.nodup
  rw [List.nodup_append] at hnd
  have he : L = hh F H.q.n := heads_same hL F H.q.n d.fl.heads (heads_nodup hwf.hd hnd.2.1) (fun p hp => by
    have h2 : p.1 ∈ S.A.free ++ S.A.fl.flatMap (·.2) := List.mem_append_right _ (List.mem_flatMap.2 ⟨p, hp, head_mem (hwf.hd p hp)⟩)
    have := hwf.perm.mem_iff.1 h2
    simpa using this)
  rw [he]
  exact Nat.le_trans (hh_len F H.q.n) (Nat.le_trans (Nat.mul_le_mul hn2 (show F.length ≤ 256 by omega)) (by decide))
theorem CInts.keep {w w' : World} {a : Option Addr} {l : List Int} (h : CInts w a l) (hk : ∀ b off, a = some ⟨b, off, none⟩ → b < w.heap.size → w'.heap[b]? = w.heap[b]?) : CInts w' a l := fun i hi => by
  obtain ⟨b, off, h1, h2⟩ := h i hi
  exact ⟨b, off, h1, (World.cell?_of_block (w := w) (hk b off h1 (cell_lt h2))).trans h2⟩

section
variable {P : Program} {md : Region.Mode} {ops : Array Oper} {Q : Exit → Act → World → Prop} {S S' : World → Prop}
theorem wpAnyH_strong (hS : ∀ w, S' w → S w) : ∀ (fuel : Nat) (listed : Array Bool) (a : Act) (w : World), wpAnyH P md ops Q S' fuel listed a w → wpAnyH P md ops Q S fuel listed a w
  | 0, _, _, _, h => h
  | fuel + 1, _, _, _, h => ⟨h.1, fun i hi => wpOp_mono (fun a' w' h' => ⟨hS w' h'.1, wpAnyH_strong hS fuel _ a' w' h'.2⟩) (h.2 i hi)⟩
end
section
variable {P : Program} {ops : Array Oper} {Q : Exit → Act → World → Prop} {i : Nat} {o : Oper} {a : Act} {w : World} {K : Act → World → Prop}
theorem op_callE (dd : Nat) (ho : ops[i]? = some o) (hg : Region.wanted o (yielded ops a.tmps) = true) (hd : o.dst = some dd) {f : FuncId} {args : Array Value} {R : Value → World → Prop} (hrun : (execOp a.eval o).run P w = .ok (.enter f args) w) (hc : Calls P f args w fun e w' => ∃ v, e = .returned v ∧ R v w')
    (h : ∀ v w', R v w' → K { a with tmps := a.tmps.setIfInBounds dd v } w') : wpOp P ops Q i K a w := by
  unfold wpOp
  simp only [ho]
  rw [if_pos hg]
  left
  unfold Oper.wp
  rw [hrun]
  refine hc.mono fun e w' hr => ?_
  obtain ⟨v, rfl, hk⟩ := hr
  have := h v w' hk
  rw [← put_some hd] at this
  exact this
end
end Go.Proofs.Ytjnhcbompgmknaa
