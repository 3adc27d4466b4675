/- Recv and Tick. -/
import Derived.Test.YtmmijbiapflneaaTeA
namespace Go.Proofs.Ytmmijbiapflneaa
open Go.RowKit Go.Maps
set_option linter.unusedVariables false
def recvS (c : Cn) : Cn := { c with came := [], oK := c.oK || (!(c.st == 5) && decide (ownW c < 1460)) }
section
variable {w : World} {p : Nat} {S : Nat → Prop} {c : Cn} {vc vm vw : Value}
theorem recv_cells1 (c : Cn) (vc vm vw : Value) : ((cnC c vc vm vw).setIfInBounds 18 (.bool true)).setIfInBounds 1 (.slice none 0 0) = cnC { c with came := [], oK := true } (.slice none 0 0) vm vw := by simp [cnC]
theorem recv_cells2 (c : Cn) (vc vm vw : Value) : (cnC c vc vm vw).setIfInBounds 1 (.slice none 0 0) = cnC { c with came := [] } (.slice none 0 0) vm vw := by simp [cnC]
set_option maxRecDepth 100000 in
set_option maxHeartbeats 2000000 in
theorem Recv_any (h : CnX w p S c vc vm vw) (ho : c.came.length ≤ 16384) : Calls Try.prog 15 #[.pointer (some ⟨p, 0, none⟩)] w fun e w' => e = .returned vc ∧ CnX w' p S (recvS c) (.slice none 0 0) vm vw ∧ Mods (fun b => b = p) w w' ∧ RW w' 5 1 vc c.came.length (u8s c.came) := by
  have HW := hid (ownWindow_any h ho)
  obtain ⟨a, k, rfl⟩ := len_came h
  have p1 := cell_of h.box (i := 16) (v := .int .i64 c.st) rfl
  have p2 := cell_of h.box (i := 18) (v := .bool c.oK) rfl
  have p3 := cell_of h.box (i := 1) (v := .slice a c.came.length k) rfl
  have f2 := froz_of h.box 18
  have f3 := froz_of h.box 1
  have k1 := setc (w := w) h.box 18 (.bool true)
  have k2 := setc k1 1 (.slice none 0 0)
  rw [recv_cells1] at k2
  have k3 := setc (w := w) h.box 1 (.slice none 0 0)
  rw [recv_cells2] at k3
  have HK2 := hid k2
  have HK3 := hid k3
  have HM2 := hid (((Mods.refl (fun b => b = p) w).setCell p 18 (.bool true) rfl).setCell p 1 (.slice none 0 0) rfl)
  have HM3 := hid ((Mods.refl (fun b => b = p) w).setCell p 1 (.slice none 0 0) rfl)
  have HX := hid h
  obtain ⟨n, hn⟩ : ∃ n, c.came.length = n := ⟨_, rfl⟩
  have HR : Hid (∀ w', Mods (fun b => b = p) w w' → RW w' 5 1 (.slice a n k) n (u8s c.came)) := hid (fun w' hm => by
    rw [← hn]
    exact h.rc.keep (fun b hb2 => hm.block b (h.rc.lt hb2) (fun e => by
      subst e
      obtain ⟨cur, hk⟩ := h.rc.kind hb2
      rw [h.box] at hk
      simp only [Option.some.injEq, Obj.cells.injEq] at hk
      exact absurd hk.2.1 (by decide))))
  have fin1 : ∀ c', c' = recvS c → Hid (∀ w', Mods (fun b => b = p) w w' → w'.heap[p]? = some (.cells (cnC c' (.slice none 0 0) vm vw) 60 (0, 0)) → CnX w' p S (recvS c) (.slice none 0 0) vm vw) := fun c' e => hid (fun w' hm hb => by
    rw [e] at hb
    exact h.gen hm hb (RB.none w) h.rw_ (fun b hb => blk_none hb) (fun b hb => hb) (.inr ⟨rfl, rfl, rfl, rfl⟩))
  rw [hn] at p3 ⊢
  by_cases h5 : c.st = 5
  · have e1 : (c.st != 5) = false := by simp [h5]
    have FIN := fin1 { c with came := [] } (by simp [recvS, h5])
    clear h ho hn k1 k2 k3 h5 fin1 HM2 HK2
    go_enter Try.func15, Try.ntmps15
    go_wp2
    go_ret
    exact ⟨rfl, FIN.out _ HM3.out HK3.out, HM3.out, HR.out _ HM3.out⟩
  · have e1 : (c.st != 5) = true := by simp [h5]
    by_cases hl : ownW c < 1460
    · have FIN := fin1 { c with came := [], oK := true } (by simp [recvS, h5, hl])
      have hd : decide (ownW c < 1460) = true := by simpa using hl
      clear h ho hn k1 k2 k3 h5 fin1 HM3 HK3
      go_enter Try.func15, Try.ntmps15
      go_wp2_with (go_at_call 33; refine HW.out.mono ?_; rintro e w5 ⟨rfl, rfl⟩; clear HW)
      go_ret
      exact ⟨rfl, FIN.out _ HM2.out HK2.out, HM2.out, HR.out _ HM2.out⟩
    · have FIN := fin1 { c with came := [] } (by simp [recvS, hl])
      have hd : decide (ownW c < 1460) = false := by simpa using hl
      clear h ho hn k1 k2 k3 h5 fin1 HM2 HK2
      go_enter Try.func15, Try.ntmps15
      go_wp2_with (go_at_call 33; refine HW.out.mono ?_; rintro e w5 ⟨rfl, rfl⟩; clear HW)
      go_ret
      exact ⟨rfl, FIN.out _ HM3.out HK3.out, HM3.out, HR.out _ HM3.out⟩
end
end Go.Proofs.Ytmmijbiapflneaa
