/- RpcRefuses: a call of another program, version, procedure is answered so. -/
import Derived.Test.YtgeecahpfjllgabDoorYmC0
import Derived.Test.YtgeecahpfjllgabDoorYmC1
import Derived.Test.YtgeecahpfjllgabDoorYmC2
import Derived.Test.YtgeecahpfjllgabDoorYmC3
import Derived.Test.YtgeecahpfjllgabDoorYmC4
namespace Go.Proofs.YtgeecahpfjllgabDoor
open Go.RowKit Go.Maps
set_option linter.unusedVariables false

set_option maxRecDepth 100000 in
set_option maxHeartbeats 4000000 in
theorem RpcRefuses_walk (w : World) (hG : Gl w) (C : Ca) (hC : C.ok) (ag : Option Addr) (ng cg : Nat) (ab : Option Addr) (nb cb : Nat) (hng : C.cr.gids.length = ng) (hgs : U32s w ag C.cr.gids) (hgm : ng ≤ maxLen) (hgc : ng ≤ cg) (hnb : C.body.length = nb) (hb : Bytes w ab C.body) (hbc : nb ≤ cb) (kd : Int) :
    Calls Tryd.prog 3 #[.agg (caC C.xid C.prog C.vers C.proc C.cr.uid C.cr.gid (.slice ag ng cg) (.slice ab nb cb)), .int .i64 kd] w fun e w' => e = .returned (.bool true) ∧ Below w.heap.size w w' := by
  by_cases hs1 : 16384 < nb
  · obtain ⟨p0, hp0⟩ : ∃ g, w.heap.size = g := ⟨_, rfl⟩
    obtain ⟨W1, hW1⟩ : ∃ W, W = w.alloc (.cells (caC C.xid C.prog C.vers C.proc C.cr.uid C.cr.gid (.slice ag ng cg) (.slice ab nb cb)) 28) := ⟨_, rfl⟩
    have b1 : Below w.heap.size w W1 := by rw [hW1]; exact below_alloc (Below.refl _ _) (Nat.le_refl _) _
    have z1 : W1.heap[p0]? = some (.cells (caC C.xid C.prog C.vers C.proc C.cr.uid C.cr.gid (.slice ag ng cg) (.slice ab nb cb)) 28 (0, 0)) := by rw [hW1, ← hp0]; exact alloc_new w _
    have HKN := hid (known17 W1 (hG.later b1))
    have HZ1 := hid z1
    have HB1 := hid b1
    have q1 : (16384 : Int) < (nb : Nat) := by omega
    have hW1' := hW1.symm
    clear b1 z1 hW1 hG hgs hb hng hgm hgc hnb hbc hC hs1
    go_enter Tryd.func3, Tryd.ntmps3
    go_wp2_with (first
      | (go_at_call 6
         (try rw [hW1'])
         refine HKN.out.mono ?_
         rintro e w2 ⟨rfl, hb2⟩
         have hz2 := (hb2.block p0 (Array.getElem?_eq_some_iff.1 HZ1.out).1).trans HZ1.out
         have x7 := cell_of hz2 (i := 7) (v := .slice ab nb cb) rfl
         have HB2 := hid (HB1.out.trans (hb2.mono HB1.out.size))
         clear hb2 hz2 HKN))
    go_ret
    have hfin := HB2.out
    first | exact ⟨rfl, hfin⟩ | (rw [hp0] at hfin; exact ⟨rfl, hfin⟩)
  · obtain ⟨h0, h5⟩ := wi_bd kd 5 (by decide)
    have hk : wi kd 5 = 0 ∨ wi kd 5 = 1 ∨ wi kd 5 = 2 ∨ wi kd 5 = 3 ∨ wi kd 5 = 4 := by omega
    by_cases h16 : 16 < ng
    · rcases hk with hk | hk | hk | hk | hk
      · exact refuse_0b w hG C hC ag ng cg ab nb cb hng hgs hgm hgc hnb hb hbc kd hk hs1 h16
      · exact refuse_1b w hG C hC ag ng cg ab nb cb hng hgs hgm hgc hnb hb hbc kd hk hs1 h16
      · exact refuse_2b w hG C hC ag ng cg ab nb cb hng hgs hgm hgc hnb hb hbc kd hk hs1 h16
      · exact refuse_3b w hG C hC ag ng cg ab nb cb hng hgs hgm hgc hnb hb hbc kd hk hs1 h16
      · exact refuse_4b w hG C hC ag ng cg ab nb cb hng hgs hgm hgc hnb hb hbc kd hk hs1 h16
    · rcases hk with hk | hk | hk | hk | hk
      · exact refuse_0s w hG C hC ag ng cg ab nb cb hng hgs hgm hgc hnb hb hbc kd hk hs1 h16
      · exact refuse_1s w hG C hC ag ng cg ab nb cb hng hgs hgm hgc hnb hb hbc kd hk hs1 h16
      · exact refuse_2s w hG C hC ag ng cg ab nb cb hng hgs hgm hgc hnb hb hbc kd hk hs1 h16
      · exact refuse_3s w hG C hC ag ng cg ab nb cb hng hgs hgm hgc hnb hb hbc kd hk hs1 h16
      · exact refuse_4s w hG C hC ag ng cg ab nb cb hng hgs hgm hgc hnb hb hbc kd hk hs1 h16
end Go.Proofs.YtgeecahpfjllgabDoor
