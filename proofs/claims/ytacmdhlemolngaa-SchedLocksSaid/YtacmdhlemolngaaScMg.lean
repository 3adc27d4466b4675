/- SchedLocks: a sharer is picked. -/
import Derived.Test.YtacmdhlemolngaaScMf
namespace Go.Proofs.Ytacmdhlemolngaa

theorem methS (b : Nat) (w : World) : (method 272 68 (.pointer (some ⟨b, 0, none⟩)) "Step").run Try.prog w = .ok (121, .pointer (some ⟨b, 0, none⟩)) w := by kernel_rfl
theorem callS (args : Array Value) (w : World) : (callFunc 121 args).run Try.prog w = .ok (.enter 121 args) w := by kernel_rfl
section
variable {w0 w w' : World} {p n : Nat} {lab lab' : Nat → Own} {A : Ab} {N T : Nat} {cs : Nat → Nat} {sh : Nat → Sh} {bi bb bo : Nat} {vi vo : Value} {ins ord : List Int} {x : Nat}
/-- A step, whatever the sharer's state. -/
theorem step_sh (h : All w0 w p lab A n (some (x : Int)) N T cs sh bi bb bo vi vo ins ord) (hx : x < N) (h1 : (A.wk (x : Int)).st = 1) (hN : N ≤ 12) (hn : n ≤ 1000000) (hT : T ≤ 4) (ho : ord.length ≤ 100000) :
    Calls Try.prog 121 #[.pointer (some ⟨cs x, 0, none⟩), .pointer (some ⟨p, 0, none⟩), .int .i64 x] w fun e w' => e = .returned undef ∧ Stp w0 w' p (n + 2) x N T cs bi bb bo (sm (fun i => phi (sh i)) N) ord.length := by
  have hst := h.lk.st x hx
  have h3 : (sh x).s ≠ 3 := fun e => by have := hst.2.1.2 e; omega
  by_cases e0 : (sh x).s = 0
  · by_cases et : (sh x).t = 0
    · exact step_exit h hx h1 hN hn e0 et
    · exact step_ask h hx h1 hN hn e0 (by omega) ho
  · by_cases e1 : (sh x).s = 1
    · exact step_enter h hx h1 e1 ho
    · have e2 : (sh x).s = 2 := by omega
      by_cases en : (sh x).n = 0
      · exact step_leave h hx hN hn hT e2 en
      · exact step_work h hx e2 (by omega)
/-- What a pick leaves. -/
def Pkd (w0 w' : World) (p n : Nat) (N T : Nat) (cs : Nat → Nat) (bi bb bo : Nat) (P : Nat) (L : Nat) : Prop := ∃ lab' A' sh' vi' vo' ins' ord', All w0 w' p lab' A' n none N T cs sh' bi bb bo vi' vo' ins' ord' ∧ A'.stp = false ∧ sm (fun i => phi (sh' i)) N + 1 = P ∧ ord'.length ≤ L + 1
theorem pick_sh (h : All w0 w p lab A n none N T cs sh bi bb bo vi vo ins ord) (hs : A.stp = false) (hN : N ≤ 12) (hn : n ≤ 1000000) (hT : T ≤ 4) (ho : ord.length ≤ 100000) (i : Int) (hq : A.q ≠ []) :
    Calls Try.prog 18 #[.pointer (some ⟨p, 0, none⟩), .int .i64 i] w fun e w' => ∃ y : Int, e = .returned (.tuple #[.int .i64 y, .int .i64 0]) ∧ Pkd w0 w' p (n + 2) N T cs bi bb bo (sm (fun i => phi (sh i)) N) ord.length := by
  obtain ⟨k1, k2⟩ := pickAt_lt A i hq
  have hmem : A.q.getD (pickAt A i) 0 ∈ A.q := by simp [List.getD, k1]
  have hql : A.q.length ≤ 549755813888 := (h.lk.inv.fit (by rw [h.lk.len]; omega)).q
  have hP := Pick_some h.sc hs hq hql i (fun w' => Pkd w0 w' p (n + 2) N T cs bi bb bo (sm (fun i => phi (sh i)) N) ord.length)
  obtain ⟨hpi, hhas⟩ := h.lk.inv.pick i hq
  obtain ⟨y, hy⟩ : ∃ y, y = A.q.getD (pickAt A i) 0 := ⟨_, rfl⟩
  rw [← hy] at hP hpi hhas hmem
  clear hy
  obtain ⟨x, rfl, hx⟩ := h.lk.idx hhas
  have hst : (A.wk (x : Int)).st = 1 := (h.lk.inv.q1 _ hmem).2.1
  have ht := h.tk x hx (by omega)
  have hlk : Lk { A with q := A.q.eraseIdx (pickAt A i), stp := true } (some (x : Int)) N T sh ins ord := ⟨hpi, h.lk.len, h.lk.oth, h.lk.st, h.lk.mem, h.lk.s2, h.lk.hd, h.lk.nm, h.lk.ins, h.lk.eq, h.lk.cnt, h.lk.bd⟩
  refine (hP (fun w1 lab1 hS1 hK1 => ?_)).mono ?_
  · refine (step_any hS1 (x : Int) hhas 68 (cs x) ht 121 (methS _) callS (fun w2 lab2 A2 n2 => n2 = n + 2 ∧ ∃ sh' vi' vo' ins' ord', All w0 w2 p lab2 A2 (n + 2) (some (x : Int)) N T cs sh' bi bb bo vi' vo' ins' ord' ∧ sm (fun i => phi (sh' i)) N + 1 = sm (fun i => phi (sh i)) N ∧ ord'.length ≤ ord.length + 1) (fun w2 hS2 hK2 => ?_)).mono ?_
    · have hA : All w0 w2 p lab1 { A with q := A.q.eraseIdx (pickAt A i), stp := true } n (some (x : Int)) N T cs sh bi bb bo vi vo ins ord := ⟨hS2, hlk, (h.lw.keep hK1).keep hK2, h.tk⟩
      refine (step_sh hA hx hst hN hn hT ho).mono ?_
      rintro e w3 ⟨rfl, lab3, A3, sh3, vi3, vo3, ins3, ord3, h3, p3, o3⟩
      exact ⟨rfl, lab3, A3, n + 2, ⟨rfl, sh3, vi3, vo3, ins3, ord3, h3, p3, o3⟩, h3.sc, (h3.lk.inv.fit (by rw [h3.lk.len]; omega)).q, h3.lk.has hx⟩
    · rintro e w3 ⟨rfl, w2, lab2, A2, n2, ⟨rfl, sh2, vi2, vo2, ins2, ord2, h2, p2, o2⟩, lab3, hS3, hK3⟩
      have hw : (A2.ended (x : Int)).ws = A2.ws := by unfold Ab.ended; split <;> rfl
      exact ⟨rfl, lab3, _, sh2, vi2, vo2, ins2, ord2, ⟨hS3, h2.lk.ended (h2.lk.has hx), h2.lw.keep hK3, fun j hj => by unfold Ab.wk; rw [hw]; exact h2.tk j hj⟩, by unfold Ab.ended; split <;> rfl, p2, o2⟩
  · rintro e w' ⟨rfl, hR⟩
    exact ⟨_, rfl, hR⟩
end
end Go.Proofs.Ytacmdhlemolngaa
