/- YaD, YaE, YgA in one text. -/
import Derived.Test.YtbfdkbdjipiliaaDoorYaC
import Derived.Test.YtbfdkbdjipiliaaDoorXbB
/- Answers read: pure. -/
namespace Go.Proofs.YtbfdkbdjipiliaaDoor
open Go.RowKit Go.Maps
set_option linter.unusedVariables false

/-- What is behind an answer's head: where the reader is, and the error that it tells. -/
def ansT (how : Int) (r : Rd) : Rd × Int × Bool :=
  if how = 1 then
    let k := rd32 r
    if k.1 = 0 then
      let lo := rd32 k.2
      let hi := rd32 lo.2
      (hi.2, if lo.1 = 2 ∧ hi.1 = 2 then 31 else 15, false)
    else if k.1 = 1 then ((rd32 k.2).2, 32, false) else (k.2, 15, false)
  else
    let v := rd32 r
    let vb := rdBy 400 v.2
    let why := rd32 vb.2
    if why.2.e = 0 ∧ why.1 = 0 then (why.2, 0, true)
    else if why.1 = 1 then (why.2, 34, false)
    else if why.1 = 2 then ((rd32 (rd32 why.2).2).2, 35, false)
    else if why.1 = 3 then (why.2, 36, false)
    else if why.1 = 4 then (why.2, 33, false) else (why.2, 15, false)
/-- Bytes read as an answer: whose, its results, the error. -/
def ansP (b : List Int) : Int × List Int × Int :=
  let x := rd32 ⟨b, 0, 0⟩
  let kd := rd32 x.2
  let how := rd32 kd.2
  if how.2.e ≠ 0 ∨ kd.1 ≠ 1 ∨ 1 < how.1 then (0, [], 15) else
  let t := ansT how.1 how.2
  if t.2.2 then (x.1, b.drop t.1.k, 0)
  else if t.1.e ≠ 0 ∨ 0 < t.1.l.length - t.1.k ∨ t.2.1 = 15 then (0, [], 15) else (x.1, [], t.2.1)
theorem Rem.end_ {r : Rd} (h : Rem r []) : r.l.length - r.k = 0 := by
  have := congrArg List.length h.2.1
  rw [List.length_drop] at this
  simpa using this
/-- The head of an answer. -/
theorem ans_head (xid how : Int) (S : List Int) (hx : IsU xid) (hh : how = 0 ∨ how = 1) :
    ∃ r, Rem r S ∧ r.l = bytesBe 4 xid ++ (bytesBe 4 1 ++ (bytesBe 4 how ++ S)) ∧ ansP (bytesBe 4 xid ++ (bytesBe 4 1 ++ (bytesBe 4 how ++ S))) =
      if (ansT how r).2.2 then (xid, (bytesBe 4 xid ++ (bytesBe 4 1 ++ (bytesBe 4 how ++ S))).drop (ansT how r).1.k, 0) else if (ansT how r).1.e ≠ 0 ∨ 0 < (ansT how r).1.l.length - (ansT how r).1.k ∨ (ansT how r).2.1 = 15 then (0, [], 15) else (xid, [], (ansT how r).2.1) := by
  obtain ⟨B, hB⟩ : ∃ B, bytesBe 4 xid ++ (bytesBe 4 1 ++ (bytesBe 4 how ++ S)) = B := ⟨_, rfl⟩
  have h0 : Rem ⟨B, 0, 0⟩ (bytesBe 4 xid ++ (bytesBe 4 1 ++ (bytesBe 4 how ++ S))) := ⟨rfl, by rw [List.drop_zero]; exact hB.symm, Nat.zero_le _⟩
  obtain ⟨a1, r1, l1⟩ := rd32_rem h0 hx
  obtain ⟨a2, r2, l2⟩ := rd32_rem r1 (by unfold IsU; omega)
  obtain ⟨a3, r3, l3⟩ := rd32_rem r2 (by unfold IsU; omega)
  refine ⟨(rd32 (rd32 (rd32 ⟨B, 0, 0⟩).2).2).2, r3, by rw [hB]; exact l3.trans (l2.trans l1), ?_⟩
  rw [hB]
  unfold ansP
  simp only [a1, a2, a3, r3.1]
  rw [if_neg (by omega)]
theorem ans_suc (xid : Int) (body : List Int) (hx : IsU xid) : ansP (sucL xid body) = (xid, body, 0) := by
  have e : fuL ([] : List Int) = bytesBe 4 0 := by decide
  have hL : sucL xid body = bytesBe 4 xid ++ (bytesBe 4 1 ++ (bytesBe 4 0 ++ (bytesBe 4 0 ++ (fuL [] ++ (bytesBe 4 0 ++ body))))) := by rw [e]; unfold sucL; simp
  rw [hL]
  obtain ⟨r, hr, hl, ha⟩ := ans_head xid 0 (bytesBe 4 0 ++ (fuL [] ++ (bytesBe 4 0 ++ body))) hx (.inl rfl)
  rw [ha]
  obtain ⟨a1, r1, l1⟩ := rd32_rem hr (by unfold IsU; omega)
  obtain ⟨a2, r2, l2⟩ := rdBy_rem (most := 400) r1 (by simp) (by simp)
  obtain ⟨a3, r3, l3⟩ := rd32_rem r2 (by unfold IsU; omega)
  have ht : ansT 0 r = ((rd32 (rdBy 400 (rd32 r).2).2).2, 0, true) := by
    unfold ansT
    rw [if_neg (by decide)]
    simp only [a3, r3.1]
    rw [if_pos ⟨trivial, trivial⟩]
  rw [ht]
  simp only [if_true]
  have := r3.2.1
  rw [l3, l2, l1, hl] at this
  rw [this]
/-- A refusal of a call that was read: its number, and what stands behind. -/
theorem ans_ref (xid why : Int) (S : List Int) (E : Int) (hx : IsU xid) (hw : (why = 1 ∧ S = [] ∧ E = 34) ∨ (why = 2 ∧ S = nuL 4 [3, 3] ∧ E = 35) ∨ (why = 3 ∧ S = [] ∧ E = 36) ∨ (why = 4 ∧ S = [] ∧ E = 33)) :
    ansP (nuL 4 [xid, 1, 0, 0, 0, why] ++ S) = (xid, [], E) := by
  have e : fuL ([] : List Int) = bytesBe 4 0 := by decide
  have hL : nuL 4 [xid, 1, 0, 0, 0, why] ++ S = bytesBe 4 xid ++ (bytesBe 4 1 ++ (bytesBe 4 0 ++ (bytesBe 4 0 ++ (fuL [] ++ (bytesBe 4 why ++ S))))) := by rw [e]; simp
  rw [hL]
  obtain ⟨r, hr, hl, ha⟩ := ans_head xid 0 (bytesBe 4 0 ++ (fuL [] ++ (bytesBe 4 why ++ S))) hx (.inl rfl)
  rw [ha]
  obtain ⟨a1, r1, l1⟩ := rd32_rem hr (by unfold IsU; omega)
  obtain ⟨a2, r2, l2⟩ := rdBy_rem (most := 400) r1 (by simp) (by simp)
  have hwu : IsU why := by unfold IsU; rcases hw with h | h | h | h <;> obtain ⟨rfl, _, _⟩ := h <;> omega
  obtain ⟨a3, r3, l3⟩ := rd32_rem r2 hwu
  have ht : ∃ r', ansT 0 r = (r', E, false) ∧ Rem r' [] := by
    unfold ansT
    rw [if_neg (by decide)]
    simp only [a3, r3.1]
    rcases hw with h | h | h | h
    · obtain ⟨rfl, rfl, rfl⟩ := h
      exact ⟨_, by rw [if_neg (by simp), if_pos rfl], r3⟩
    · obtain ⟨rfl, rfl, rfl⟩ := h
      have r3' : Rem (rd32 (rdBy 400 (rd32 r).2).2).2 (bytesBe 4 3 ++ (bytesBe 4 3 ++ [])) := by simpa using r3
      obtain ⟨_, s1, _⟩ := rd32_rem r3' (by unfold IsU; omega)
      obtain ⟨_, s2, _⟩ := rd32_rem s1 (by unfold IsU; omega)
      exact ⟨_, by rw [if_neg (by simp), if_neg (by decide), if_pos rfl], s2⟩
    · obtain ⟨rfl, rfl, rfl⟩ := h
      exact ⟨_, by rw [if_neg (by simp), if_neg (by decide), if_neg (by decide), if_pos rfl], r3⟩
    · obtain ⟨rfl, rfl, rfl⟩ := h
      exact ⟨_, by rw [if_neg (by simp), if_neg (by decide), if_neg (by decide), if_neg (by decide), if_pos rfl], r3⟩
  obtain ⟨r', ht, hr'⟩ := ht
  rw [ht]
  simp only [Bool.false_eq_true, if_false]
  have hE : E ≠ 15 := by rcases hw with h | h | h | h <;> obtain ⟨_, _, rfl⟩ := h <;> decide
  rw [if_neg (by rw [hr'.1, hr'.end_]; simp [hE])]
theorem ans_gar (xid : Int) (hx : IsU xid) : ansP (garL xid) = (xid, [], 33) := by
  have := ans_ref xid 4 [] 33 hx (.inr (.inr (.inr ⟨rfl, rfl, rfl⟩)))
  rw [List.append_nil] at this
  exact this
/-- Of another version of RPC; of credentials that are none. -/
theorem ans_rpc (xid : Int) (hx : IsU xid) : ansP (nuL 4 [xid, 1, 1, 0, 2, 2]) = (xid, [], 31) := by
  have hL : nuL 4 [xid, 1, 1, 0, 2, 2] = bytesBe 4 xid ++ (bytesBe 4 1 ++ (bytesBe 4 1 ++ (bytesBe 4 0 ++ (bytesBe 4 2 ++ (bytesBe 4 2 ++ []))))) := by simp
  rw [hL]
  obtain ⟨r, hr, hl, ha⟩ := ans_head xid 1 (bytesBe 4 0 ++ (bytesBe 4 2 ++ (bytesBe 4 2 ++ []))) hx (.inr rfl)
  rw [ha]
  obtain ⟨a1, r1, l1⟩ := rd32_rem hr (by unfold IsU; omega)
  obtain ⟨a2, r2, l2⟩ := rd32_rem r1 (by unfold IsU; omega)
  obtain ⟨a3, r3, l3⟩ := rd32_rem r2 (by unfold IsU; omega)
  have ht : ansT 1 r = ((rd32 (rd32 (rd32 r).2).2).2, 31, false) := by
    unfold ansT
    rw [if_pos rfl]
    simp only [a1, a2, a3]
    rw [if_pos trivial, if_pos ⟨trivial, trivial⟩]
  rw [ht]
  simp only [Bool.false_eq_true, if_false]
  rw [if_neg (by rw [r3.1, r3.end_]; simp)]
theorem ans_auth (xid why : Int) (hx : IsU xid) (hw : IsU why) : ansP (nuL 4 [xid, 1, 1, 1, why]) = (xid, [], 32) := by
  have hL : nuL 4 [xid, 1, 1, 1, why] = bytesBe 4 xid ++ (bytesBe 4 1 ++ (bytesBe 4 1 ++ (bytesBe 4 1 ++ (bytesBe 4 why ++ [])))) := by simp
  rw [hL]
  obtain ⟨r, hr, hl, ha⟩ := ans_head xid 1 (bytesBe 4 1 ++ (bytesBe 4 why ++ [])) hx (.inr rfl)
  rw [ha]
  obtain ⟨a1, r1, l1⟩ := rd32_rem hr (by unfold IsU; omega)
  obtain ⟨a2, r2, l2⟩ := rd32_rem r1 hw
  have ht : ansT 1 r = ((rd32 (rd32 r).2).2, 32, false) := by
    unfold ansT
    rw [if_pos rfl]
    simp only [a1]
    rw [if_neg (by decide), if_pos trivial]
  rw [ht]
  simp only [Bool.false_eq_true, if_false]
  rw [if_neg (by rw [r2.1, r2.end_]; simp)]
end Go.Proofs.YtbfdkbdjipiliaaDoor

/- Calls without credentials, of another version of RPC: pure. -/
namespace Go.Proofs.YtbfdkbdjipiliaaDoor
open Go.RowKit Go.Maps
set_option linter.unusedVariables false

theorem callL_24 (c : Ca) : (callL c).take 24 = nuL 4 [c.xid, 0, 2, c.prog, c.vers, c.proc] := by
  have e : callL c = nuL 4 [c.xid, 0, 2, c.prog, c.vers, c.proc] ++ (bytesBe 4 1 ++ (fuL (sysL c.cr) ++ (bytesBe 4 0 ++ (bytesBe 4 0 ++ c.body)))) := by unfold callL; simp
  rw [e, List.take_left' (by rw [nuL_len]; rfl)]
theorem parse_none (xid prog vers proc : Int) (body : List Int) (hx : IsU xid) (hp : IsU prog) (hv : IsU vers) (hc : IsU proc) :
    parseP (nuL 4 [xid, 0, 2, prog, vers, proc, 0, 0, 0, 0] ++ body) = judP ⟨xid, prog, vers, proc, ⟨65534, 65534, []⟩, body⟩ := by
  have e : fuL ([] : List Int) = bytesBe 4 0 := by decide
  have hL : nuL 4 [xid, 0, 2, prog, vers, proc, 0, 0, 0, 0] ++ body = bytesBe 4 xid ++ (bytesBe 4 0 ++ (bytesBe 4 2 ++ (bytesBe 4 prog ++ (bytesBe 4 vers ++ (bytesBe 4 proc ++ (bytesBe 4 0 ++ (fuL [] ++ (bytesBe 4 0 ++ (fuL [] ++ body))))))))) := by rw [e]; simp
  obtain ⟨B, hB⟩ : ∃ B, nuL 4 [xid, 0, 2, prog, vers, proc, 0, 0, 0, 0] ++ body = B := ⟨_, rfl⟩
  rw [hB] at hL ⊢
  have h0 : Rem ⟨B, 0, 0⟩ (bytesBe 4 xid ++ (bytesBe 4 0 ++ (bytesBe 4 2 ++ (bytesBe 4 prog ++ (bytesBe 4 vers ++ (bytesBe 4 proc ++ (bytesBe 4 0 ++ (fuL [] ++ (bytesBe 4 0 ++ (fuL [] ++ body)))))))))) := ⟨rfl, by rw [List.drop_zero]; exact hL, Nat.zero_le _⟩
  have u0 : IsU 0 := by unfold IsU; omega
  have u2 : IsU 2 := by unfold IsU; omega
  obtain ⟨a1, r1, l1⟩ := rd32_rem h0 hx
  obtain ⟨a2, r2, l2⟩ := rd32_rem r1 u0
  obtain ⟨a3, r3, l3⟩ := rd32_rem r2 u2
  obtain ⟨a4, r4, l4⟩ := rd32_rem r3 hp
  obtain ⟨a5, r5, l5⟩ := rd32_rem r4 hv
  obtain ⟨a6, r6, l6⟩ := rd32_rem r5 hc
  obtain ⟨a7, r7, l7⟩ := rd32_rem r6 u0
  obtain ⟨a8, r8, l8⟩ := rdBy_rem (most := 400) r7 (by simp) (by simp)
  obtain ⟨a9, r9, l9⟩ := rd32_rem r8 u0
  obtain ⟨a10, r10, l10⟩ := rdBy_rem (most := 400) r9 (by simp) (by simp)
  obtain ⟨q3, _, _⟩ := r3
  obtain ⟨q10, d10, _⟩ := r10
  rw [l10, l9, l8, l7, l6, l5, l4, l3, l2, l1] at d10
  unfold parseP
  simp only [a1, a2, a3, a4, a5, a6, a7, a8, a9, a10, q3, q10]
  rw [if_neg (by simp), if_neg (by simp), if_neg (by simp)]
  have hcr : crdP 0 [] = (0, ⟨65534, 65534, []⟩) := by unfold crdP; rw [if_pos rfl, if_neg (by simp)]
  have hw : whyP (crdP 0 []).1 0 [] = 0 := by rw [hcr]; unfold whyP; simp
  rw [hw, if_neg (by simp), hcr, d10]
/-- Another version of RPC. -/
theorem parse_vers (xid v : Int) (S : List Int) (hx : IsU xid) (hv : IsU v) (h2 : v ≠ 2) : parseP (nuL 4 [xid, 0, v] ++ S) = (Ca0, 31, nuL 4 [xid, 1, 1, 0, 2, 2]) := by
  have hL : nuL 4 [xid, 0, v] ++ S = bytesBe 4 xid ++ (bytesBe 4 0 ++ (bytesBe 4 v ++ S)) := by simp
  obtain ⟨B, hB⟩ : ∃ B, nuL 4 [xid, 0, v] ++ S = B := ⟨_, rfl⟩
  rw [hB] at hL ⊢
  have h0 : Rem ⟨B, 0, 0⟩ (bytesBe 4 xid ++ (bytesBe 4 0 ++ (bytesBe 4 v ++ S))) := ⟨rfl, by rw [List.drop_zero]; exact hL, Nat.zero_le _⟩
  obtain ⟨a1, r1, _⟩ := rd32_rem h0 hx
  obtain ⟨a2, r2, _⟩ := rd32_rem r1 (by unfold IsU; omega)
  obtain ⟨a3, r3, _⟩ := rd32_rem r2 hv
  unfold parseP
  simp only [a1, a2, a3, r3.1]
  rw [if_neg (by simp), if_pos h2]
end Go.Proofs.YtbfdkbdjipiliaaDoor

/- What is written of calls and answers: rows of numbers, proofs. -/
namespace Go.Proofs.YtbfdkbdjipiliaaDoor
open Go.RowKit Go.Maps
set_option linter.unusedVariables false

/-- A new row of numbers. -/
theorem u32s_new {w : World} {vs : List Int} (hv : ∀ x ∈ vs, IsU x) {W : World} (hk : W.heap[w.heap.size]? = some (.cells (vs.map fun x => Value.int .u32 x).toArray 41 (0, 0))) : U32s W (some ⟨w.heap.size, 0, none⟩) vs := fun i hi => by
  refine ⟨w.heap.size, 0, rfl, ?_, ?_⟩
  · exact cell_of hk (by simp [List.getD, hi])
  · have e : vs.getD i 0 = vs[i] := by simp [List.getD, hi]
    rw [e]; exact hv _ (List.getElem_mem hi)
theorem WU32_new {w : World} {p : Nat} {S : Nat → Prop} {l : List Int} (h : WX w 98 p S l) (vs : List Int) (hv : ∀ x ∈ vs, IsU x) (m : Nat) (hm : vs.length = m) (hml : m ≤ 100) (hl : l.length ≤ 700000) :
    Calls Tryd.prog 20 #[.pointer (some ⟨p, 0, none⟩), .slice (some ⟨w.heap.size, 0, none⟩) m m] (w.alloc (.cells (vs.map fun x => Value.int .u32 x).toArray 41)) fun e w' => e = .returned (.tuple #[]) ∧ ∃ S', WX w' 98 p S' (l ++ nuL 4 vs) ∧ Kp S w S' w' := by
  have hb : Below w.heap.size w (w.alloc (.cells (vs.map fun x => Value.int .u32 x).toArray 41)) := below_alloc (Below.refl _ _) (Nat.le_refl _) _
  have hc := alloc_new w (.cells (vs.map fun x => Value.int .u32 x).toArray 41)
  have hn : ¬ S w.heap.size := fun e => by have := h.slt _ e; omega
  refine (WU32_any (h.later hb) m m (some ⟨w.heap.size, 0, none⟩) vs hm (by omega) (fun W S2 hk => u32s_new hv ((hk.block (by simp) hn).trans hc)) (by omega)).mono ?_
  rintro e w' ⟨rfl, S', hx, hk⟩
  exact ⟨rfl, S', hx, (Kp.below hb).trans hk⟩
theorem WBytes_new {w : World} {p : Nat} {S : Nat → Prop} {l : List Int} (h : WX w 98 p S l) (a : Option Addr) (n c : Nat) (b : List Int) (hn : b.length = n) (hb : ∀ W S2, Kp S w S2 W → Bytes W a b) (hn3 : n ≤ 3000) (hl : l.length ≤ 600000) :
    Calls Tryd.prog 46 #[.pointer (some ⟨p, 0, none⟩), .slice (some ⟨w.heap.size, 0, none⟩) 1 1] (w.alloc (.cells #[.slice a n c] 27)) fun e w' => e = .returned (.tuple #[]) ∧ ∃ S', WX w' 98 p S' (l ++ fuL b) ∧ Kp S w S' w' := by
  have hB : Below w.heap.size w (w.alloc (.cells #[.slice a n c] 27)) := below_alloc (Below.refl _ _) (Nat.le_refl _) _
  have hc : (w.alloc (.cells #[.slice a n c] 27)).cell? ⟨w.heap.size, 0, none⟩ = some (.slice a n c) := by rw [new_cell _ _ _ _ 0 (by simp)]; rfl
  have hg : ¬ S w.heap.size := fun e => by have := h.slt _ e; omega
  have hl4 : ∀ k, (l ++ ([b].take k).flatMap fuL).length ≤ 700000 := fun k => by
    have h4 := pad4_lt b.length
    have h5 := fuL_len b
    rcases k with _ | k
    · simp; omega
    · simp [h5]; omega
  refine (WBytes_any (h.later hB) 1 1 (some ⟨w.heap.size, 0, none⟩) [b] rfl (by omega) (fun i hi => ?_) hl4 (fun x hx => by simp at hx; subst hx; omega)).mono ?_
  · obtain rfl : i = 0 := by simp at hi; omega
    subst hn
    exact ⟨w.heap.size, 0, a, c, rfl, fun W S2 hk => ⟨hk.cell hc hg, hb W S2 ((Kp.below hB).trans hk)⟩⟩
  · rintro e w' ⟨rfl, S', hx, hk⟩
    exact ⟨rfl, S', by simpa using hx, (Kp.below hB).trans hk⟩
set_option maxRecDepth 100000 in
set_option maxHeartbeats 1000000 in
theorem writeProof_any {w : World} {p : Nat} {S : Nat → Prop} {l : List Int} (h : WX w 98 p S l) (kd : Int) (hkd : IsU kd) (a : Option Addr) (n c : Nat) (b : List Int) (hn : b.length = n) (hb : ∀ W S2, Kp S w S2 W → Bytes W a b) (hn3 : n ≤ 3000) (hl : l.length ≤ 500000) :
    Calls Tryd.prog 27 #[.pointer (some ⟨p, 0, none⟩), .agg #[.int .u32 kd, .slice a n c]] w fun e w' => e = .returned (.tuple #[]) ∧ ∃ S', WX w' 98 p S' (l ++ bytesBe 4 kd ++ fuL b) ∧ Kp S w S' w' := by
  obtain ⟨W1, hW1⟩ : ∃ W, W = w.alloc (.cells #[.int .u32 kd, .slice a n c] 80) := ⟨_, rfl⟩
  have b1 : Below w.heap.size w W1 := by rw [hW1]; exact below_alloc (Below.refl _ _) (Nat.le_refl _) _
  have z1 : W1.heap[w.heap.size]? = some (.cells #[.int .u32 kd, .slice a n c] 80 (0, 0)) := by rw [hW1]; exact alloc_new w _
  have hg : ¬ S w.heap.size := fun e => by have := h.slt _ e; omega
  have cA := cell_of z1 (i := 0) (v := .int .u32 kd) rfl
  have HU := hid (WU32_new (h.later b1) [kd] (by simpa using hkd) 1 rfl (by omega) (by omega))
  simp only [List.map_cons, List.map_nil, nuL_one] at HU
  have H1 := hid b1
  have HG := hid hg
  have HB := hid hb
  have HN := hid hn
  have HL := hid hl
  have HLT : Hid (w.heap.size < W1.heap.size) := hid (by rw [hW1]; simp)
  have hW1' := hW1.symm
  have Z1 := hid z1
  clear h b1 z1 hW1 hg hb hn hl hkd
  go_enter Tryd.func27, Tryd.ntmps27
  go_wp2_with (first
    | (go_at_call 20
       refine HU.out.mono ?_
       rintro e w2 ⟨rfl, S2, hx2, hk2⟩
       have c2 := hk2.cell (cell_of Z1.out (i := 1) (v := .slice a n c) rfl) HG.out
       have HW := hid (WBytes_new hx2 a n c b HN.out (fun W S3 hk => HB.out W S3 ((Kp.below H1.out).trans (hk2.trans hk))) hn3 (by rw [List.length_append, len_be]; have := HL.out; omega))
       have HK2 := hid hk2
       clear hx2 hk2)
    | (go_at_call 46
       refine HW.out.mono ?_
       rintro e w3 ⟨rfl, S3, hx3, hk3⟩
       have HX := hid hx3
       have HK3 := hid ((Kp.below H1.out).trans (HK2.out.trans hk3))
       clear hx3 hk3))
  go_end0
  exact ⟨rfl, S3, HX.out, HK3.out⟩
end Go.Proofs.YtbfdkbdjipiliaaDoor
