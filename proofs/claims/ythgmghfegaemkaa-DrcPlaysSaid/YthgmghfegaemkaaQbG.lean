/- Tables of calls: one comes to its end. -/
import Derived.Test.YthgmghfegaemkaaQbF
namespace Go.Proofs.Ythgmghfegaemkaa
open Go.RowKit Go.Maps
set_option linter.unusedVariables false

/-- Begin, in all cases. -/
theorem Begin_any (w : World) (p : Nat) (S : Nat → Prop) (n : Nat) (L : Tl) (c : Nat) (h : TbAt w p S n L c) (k : Ky) (hk : k.Ok) (hn : 0 < n) (hn2 : n ≤ 1000) (hl : L.length ≤ n) (hcc : c < 1000000) (hbig : ∀ l, fndT L k = some (some l) → l.length ≤ 900000) :
    Calls Try.prog 8 #[.pointer (some ⟨p, 0, none⟩), kV k] w (BeginPost w p S n L c k) := by
  obtain ⟨gm, vo, h⟩ := h
  cases hf : fndT L k with
  | some o => exact Begin_known w p S n L c gm vo h k hk o hf (fun l e => hbig l (by rw [hf, e]))
  | none =>
    cases hr : rmT n L with
    | none => exact Begin_full w p S n L c gm vo h k hk hf hn hn2 hl hcc hr
    | some M => exact Begin_fresh w p S n L c gm vo h k hk hf hn hn2 hl hcc M hr
def EndPost (w : World) (p : Nat) (S : Nat → Prop) (n : Nat) (L : Tl) (c : Nat) (k : Ky) (r : List Int) (e : Ending) (w' : World) : Prop :=
  ∃ S', e = .returned (.int .i64 (enC L k)) ∧ TbAt w' p S' n (enL L k r) (c + 1) ∧ Kp S w S' w'
theorem stI_two {o : Option (Option (List Int))} : stI o = 2 ↔ o = some none := by
  match o with
  | none => simp [stI]
  | some none => simp [stI]
  | some (some l) => simp [stI]
set_option maxRecDepth 100000 in
set_option maxHeartbeats 2000000 in
theorem End_no (w : World) (p : Nat) (S : Nat → Prop) (n : Nat) (L : Tl) (c gm : Nat) (vo : Value) (h : TbX w p S n L c gm vo) (k : Ky) (hk : k.Ok) (hf : fndT L k ≠ some none) (a : Option Addr) (rn rc : Nat) (r : List Int) :
    Calls Try.prog 11 #[.pointer (some ⟨p, 0, none⟩), kV k, .slice a rn rc] w (EndPost w p S n L c k r) := by
  obtain ⟨W1, hW1⟩ : ∃ W, W = w.alloc (.cells (kL k).toArray 33) := ⟨_, rfl⟩
  obtain ⟨g, hg⟩ : ∃ g, w.heap.size = g := ⟨_, rfl⟩
  have b1 : Below w.heap.size w W1 := by rw [hW1]; exact below_alloc (Below.refl _ _) (Nat.le_refl _) _
  have h1 := h.later b1
  have hg1 : W1.heap[g]? = some (.cells (kL k).toArray 33 (0, 0)) := by rw [hW1, ← hg]; exact alloc_new w _
  obtain ⟨M, hM, hT⟩ := h1.mp
  obtain ⟨va, m, cc, hlv⟩ := hT.st hk
  have hlk : ∀ q, (Instr.lookup 54 (.map (some gm)) (.agg #[.int .u32 k.ip, .int .i64 k.port, .int .u32 k.xid, .int .u32 k.proc, .int .u32 k.sum]) false).run Try.prog (W1.drewN q) = .ok (.agg #[.int .i64 (stI (fndT L k)), .slice va m cc]) (W1.drewN q) := fun q => by
    rw [← hlv]; exact (hM.keep (w' := W1.drewN q) rfl).look Try.underlying54 (zeroPr _) hk
  have c1 : W1.cell? ⟨p, 1, none⟩ = some (.map (some gm)) := cell_of h1.box rfl
  have k0 : W1.cell? ⟨g, 0, none⟩ = some (.int .u32 k.ip) := cell_of hg1 rfl
  have k1 : W1.cell? ⟨g, 1, none⟩ = some (.int .i64 k.port) := cell_of hg1 rfl
  have k2 : W1.cell? ⟨g, 2, none⟩ = some (.int .u32 k.xid) := cell_of hg1 rfl
  have k3 : W1.cell? ⟨g, 3, none⟩ = some (.int .u32 k.proc) := cell_of hg1 rfl
  have k4 : W1.cell? ⟨g, 4, none⟩ = some (.int .u32 k.sum) := cell_of hg1 rfl
  have hfd := fun (W : World) => fieldPr (.int .i64 (stI (fndT L k))) (.slice va m cc) W
  have HB := hid b1
  have HW := hW1.symm
  have hst : ¬ (stI (fndT L k) = 2) := fun e => hf (stI_two.1 e)
  have HEC := hid (show enC L k = 2 by unfold enC; rw [if_neg hf])
  have HEL := hid (show enL L k r = L by unfold enL; rw [if_neg hf])
  have HH := hid h
  generalize stI (fndT L k) = st at *
  clear hW1 b1 h1 hg1 hM hT hlv h hf
  go_enter Try.func11, Try.ntmps11
  go_wp2_with fail
  go_quiet (fail)
  go_wp2
  go_ret
  have hB := below_drewN HB.out nq
  exact ⟨S, by rw [HEC.out]; rfl, ⟨gm, vo, by rw [HEL.out]; exact (HH.out.later hB).mono (Nat.le_succ _)⟩, Kp.below hB⟩
/-- The entry is told its reply. -/
theorem TbX.ended {w W4 : World} {p : Nat} {S : Nat → Prop} {n : Nat} {L : Tl} {c gm : Nat} {vo : Value} (h : TbX w p S n L c gm vo) {k : Ky} (hk : k.Ok) (hf : fndT L k = some none) (hc : c < 1000000) (hb : Below w.heap.size w W4) {a : Option Addr} {r : List Int} {rn rc : Nat} (hrn : r.length = rn) (hy : By W4 (New w) a r) (hrc : rn ≤ rc) :
    ∃ W5, (Instr.mapUpdate 54 (.map (some gm)) (kV k) (.agg #[.int .i64 3, .slice a rn rc])).run Try.prog W4 = .ok () W5 ∧ ∃ S', TbX W5 p S' n (doneT L k r) (c + 1) gm vo ∧ Kp S w S' W5 ∧ ∀ b, b < W4.heap.size → b ≠ gm → W5.heap[b]? = W4.heap[b]? := by
  have h4 := h.later hb
  obtain ⟨M, hM, hT⟩ := h4.mp
  obtain ⟨W5, hup, hM5, hgr⟩ := hM.put Try.underlying54 (by unfold maxLen; omega) hk (.agg #[.int .i64 3, .slice a rn rc])
  have hg5 : Mods (fun x => x = gm) W4 W5 := Mods.of_grown' hgr
  refine ⟨W5, hup, fun b => S b ∨ (w.heap.size ≤ b ∧ b < W4.heap.size), ?_, ?_, fun b hb hn => hg5.block b hb hn⟩
  · have hgk : ∃ es cl, W4.heap[gm]? = some (.map es cl) := hM.kind
    have t5 : MT W5 (fun b => S b ∨ (w.heap.size ≤ b ∧ b < W4.heap.size)) L M := hT.off (.inl hgk) hg5 (fun _ h => .inl h)
    have hr4 := h4.row
    refine ⟨(hg5.block p (Array.getElem?_eq_some_iff.1 h4.box).1 h.npm).trans h4.box, ⟨_, hM5, fun j hj => ⟨fun o ho => ?_, fun ho => ?_⟩⟩, ?_, fun e he => ?_, by rw [doneT_keys]; exact h.nd, .inl h.sp, .inl h.sg, fun b hb => .inl (h.so b hb), fun b hb => ?_⟩
    · rw [fndT_done r (by rw [hf]; rfl)] at ho
      split at ho
      · rename_i hjk
        simp at ho
        subst ho
        refine ⟨_, by rw [hjk]; exact updK_same _ _ _, a, rc, by rw [hrn], ?_, by rw [hrn]; exact hrc⟩
        refine ⟨hy.1, fun hp => ?_⟩
        obtain ⟨b, off, cur, fr, ha, hsb, hh, hcc⟩ := hy.2 hp
        refine ⟨b, off, cur, fr, ha, .inr ⟨hsb, (Array.getElem?_eq_some_iff.1 hh).1⟩, (hg5.block b (Array.getElem?_eq_some_iff.1 hh).1 (fun e => ?_)).trans hh, hcc⟩
        obtain ⟨es, cl, hk2⟩ := hgk
        rw [e, hk2] at hh
        simp at hh
      · rename_i hjk
        obtain ⟨v, e1, e2⟩ := (t5 j hj).1 o ho
        exact ⟨v, by rw [updK_other _ _ hjk]; exact e1, e2⟩
    · rw [fndT_done r (by rw [hf]; rfl)] at ho
      split at ho
      · cases ho
      · rename_i hjk
        rw [updK_other _ _ hjk]
        exact (t5 j hj).2 ho
    · rw [doneT_len, rowT_done]
      exact hr4.keep (fun x hx => hg5.block x (hr4.lt hx) (h4.nog hx))
    · unfold doneT at he
      obtain ⟨f, hf1, rfl⟩ := List.mem_map.1 he
      split
      · exact hk
      · exact h.ok f hf1
    · rcases hb with h1 | ⟨_, h1⟩
      · exact Nat.lt_of_lt_of_le (h4.slt b h1) hg5.size
      · exact Nat.lt_of_lt_of_le h1 hg5.size
  · refine ⟨fun b hb => ?_, (Mods.of_below hb).trans hg5 (fun b hb => .inl (by rw [hb]; exact h.sg))⟩
    rcases hb with h1 | ⟨h1, _⟩
    · exact .inl h1
    · exact .inr h1
end Go.Proofs.Ythgmghfegaemkaa
