/- The calls of both sides, told by one state each: Add, what is poked. -/
import Derived.Test.YtjnhcbompgmknaaBothB
namespace Go.Proofs.Ytjnhcbompgmknaa
open Go.RowKit

def addR (S : Sd) (bufs : List Bf) : Int × Int :=
  if bufs.length = 0 ∨ anyB bufs = true then (0, 1) else if S.A.free.length < bufs.length then (0, 7) else ((S.A.free.getD 0 0 : Nat), 0)
def addS (q : Qu) (S : Sd) (bufs : List Bf) : Sd :=
  if bufs.length = 0 ∨ anyB bufs = true then S else if S.A.free.length < bufs.length then S else { S with A := AddA S.A bufs.length, f := addF S.f q S.A bufs }
theorem okB_of {bufs : List Bf} (h : anyB bufs = false) (h64 : ∀ b ∈ bufs, Is64 b.addr ∧ Is64 b.len) : ∀ b ∈ bufs, okB b := fun b hb => by
  unfold anyB at h
  rw [List.any_eq_false] at h
  have h1 := h b hb
  have h2 := (h64 b hb).1
  simp [badB, lenB] at h1
  unfold Is64 at h2
  exact ⟨by omega, by omega, by omega, by omega⟩
theorem Drv.count {w : World} {pd : Nat} {q : Qu} {A : Abs} {c c' : Nat} {al : Nat → Prop} (h : Drv w pd q A c al) (hc : c ≤ c') : Drv w pd q A c' al := by
  obtain ⟨vf, bm, M, d⟩ := h
  exact ⟨vf, bm, M, { d with mp := d.mp.mono hc }⟩
section
variable {w0 w : World} {H : Hd} {c : Nat} {S S2 : Sd} {T : List Int} {Z : Nat → Prop}
theorem Both.count (h : Both Z w0 w H c S S2 T) {c' : Nat} (hc : c ≤ c') : Both Z w0 w H c' S S2 T := by
  obtain ⟨vt, al, ar, lab, b, hZ⟩ := h
  exact ⟨vt, al, ar, lab, { b with drv := b.drv.count hc }, hZ⟩
theorem CBufs.bufs {a : Option Addr} {l : List Bf} (h : CBufs w a l) {g : Nat} (hg : ∀ b off, a = some ⟨b, off, none⟩ → b ≠ g) : Bufs w a l g := fun i hi => by
  obtain ⟨b, off, h1, h2, h3, h4⟩ := h i hi
  exact ⟨b, off, h1, hg b off h1, h2, h3, h4⟩
theorem Both.add1 (h : Both Z w0 w H c S S2 T) (hc : c < 1099511627776) (ab : Option Addr) (m cap : Nat) (bufs : List Bf) (hb : bufs.length = m) (hB : CBufs w ab bufs) (hz : 0 < m → ∀ b off, ab = some ⟨b, off, none⟩ → Z b) (h64 : ∀ b ∈ bufs, Is64 b.addr ∧ Is64 b.len) (hm : m ≤ 65536) :
    Calls Try.prog 20 #[.pointer (some ⟨H.pd, 0, none⟩), .slice ab m cap] w fun e w' => e = .returned (.tuple #[.int .i64 (addR S bufs).1, .int .i64 (addR S bufs).2]) ∧ Goes Z w0 w w' H (c + 1) (addS H.q S bufs) S2 T := by
  obtain ⟨vt, al, ar, lab, b, hZ⟩ := h
  have b1 : Bo w0 w H (c + 1) S S2 T vt al ar lab := { b with drv := b.drv.count (Nat.le_succ c) }
  subst hb
  by_cases h0 : bufs.length = 0
  · rw [show addR S bufs = (0, 1) by simp [addR, h0], show addS H.q S bufs = S by simp [addS, h0], h0]
    refine (Add_none w H.pd ab cap).mono ?_
    rintro e w' ⟨rfl, hbe⟩
    exact ⟨rfl, b1.pack hZ (Mods.of_below (al := fun _ => False) hbe) (fun _ e => e.elim) (b1.toBelow hbe)⟩
  · have hBu : Bufs w ab bufs H.q.g := hB.bufs (fun x off e e2 => by have h1 := (hZ x (hz (by omega) x off e)).2; have h2 := b.l3; rw [e2] at h1; omega)
    by_cases ha : anyB bufs = true
    · rw [show addR S bufs = (0, 1) by simp [addR, ha], show addS H.q S bufs = S by simp [addS, ha]]
      refine (Add_arg w H.pd H.q.g ab bufs.length cap bufs rfl hBu (fun x hx => (h64 x hx).2) hm (by omega) ha).mono ?_
      rintro e w' ⟨rfl, hbe⟩
      exact ⟨rfl, b1.pack hZ (Mods.of_below (al := fun _ => False) hbe) (fun _ e => e.elim) (b1.toBelow hbe)⟩
    · have hok := okB_of (by simpa using ha) h64
      by_cases hf : S.A.free.length < bufs.length
      · rw [show addR S bufs = (0, 7) by simp [addR, h0, ha, hf], show addS H.q S bufs = S by simp [addS, hf]]
        refine (Add_full w H.pd H.q S.A c al b.drv ab bufs.length cap bufs rfl hBu hok hm (by omega) hf).mono ?_
        rintro e w' ⟨rfl, hbe⟩
        exact ⟨rfl, b1.pack hZ (Mods.of_below (al := fun _ => False) hbe) (fun _ e => e.elim) (b1.toBelow hbe)⟩
      · rw [show addR S bufs = (((S.A.free.getD 0 0 : Nat) : Int), 0) by simp [addR, h0, ha, hf], show addS H.q S bufs = { S with A := AddA S.A bufs.length, f := addF S.f H.q S.A bufs } by simp [addS, h0, ha, hf]]
        refine (Add_ok w H.pd H.q S.A c al S.f b.drv b.mem ab bufs.length cap bufs rfl hBu (fun x off e e2 => by have h1 := (hZ x (hz (by omega) x off e)).2; have h2 := b.l1 x e2; omega) hok (by omega) (by omega) hc).mono ?_
        rintro e w' ⟨rfl, hs, hme⟩
        exact ⟨rfl, b.toDrv hZ hs hme⟩
theorem Both.poke1 (h : Both Z w0 w H c S S2 T) (i : Nat) (x : Int) (hx : IsB x) : Goes Z w0 w (w.setCell ⟨H.q.g, i, none⟩ (.int .u8 x)) H c { S with f := fun j => if j = i then x else S.f j } S2 T := by
  obtain ⟨vt, al, ar, lab, b, hZ⟩ := h
  have hmo : Mods (fun b => b = H.pv ∨ b = H.q.g) w (w.setCell ⟨H.q.g, i, none⟩ (.int .u8 x)) := (Mods.refl _ w).setCell H.q.g i _ (.inr rfl)
  refine b.toDev hZ hmo ?_ (b.mem.set1 i x hx)
  exact b.dev.keep (Below.heap_setCell _ _ _ _ b.dev.2.2.2)
theorem Both.poke2 (h : Both Z w0 w H c S S2 T) (i : Nat) (x : Int) (hx : IsB x) : Goes Z w0 w (w.setCell ⟨H.g, i, none⟩ (.int .u8 x)) H c S { S2 with f := fun j => if j = i then x else S2.f j } T := by
  obtain ⟨vt, al, ar, lab, b, hZ⟩ := h
  have hmo : Mods (fun b => b = H.py ∨ b = H.g) w (w.setCell ⟨H.g, i, none⟩ (.int .u8 x)) := (Mods.refl _ w).setCell H.g i _ (.inr rfl)
  refine b.toRdev hZ hmo ?_ (b.rmem.set1 i x hx)
  exact b.rdev.keep (Below.heap_setCell _ _ _ _ b.rdev.2.2.2)
theorem Goes.tr {w' w'' : World} {c' c'' : Nat} {S' S2' S'' S2'' : Sd} {T' T'' : List Int} (h : Goes Z w0 w w' H c' S' S2' T') (h' : Goes Z w0 w' w'' H c'' S'' S2'' T'') : Goes Z w0 w w'' H c'' S'' S2'' T'' := ⟨h'.1, fun b hb => (h'.2 b hb).trans (h.2 b hb)⟩
end
end Go.Proofs.Ytjnhcbompgmknaa
