/- YaB, YaC in one text. -/
import Derived.Test.YtbfdkbdjipiliaaDoorXeA
/- Calls as bytes, read from what is left: pure. -/
namespace Go.Proofs.YtbfdkbdjipiliaaDoor
open Go.RowKit Go.Maps
set_option linter.unusedVariables false

/-- One number read. -/
def rd32 (r : Rd) : Int × Rd := (ansV r 0 (u32P r.l r.k), ansR r (u32P r.l r.k))
def rdBy (most : Int) (r : Rd) : List Int × Rd := (ansV r [] (cntP r.l r.k most), ansR r (cntP r.l r.k most))
/-- A reader without an error, before S. -/
def Rem (r : Rd) (S : List Int) : Prop := r.e = 0 ∧ r.l.drop r.k = S ∧ r.k ≤ r.l.length
theorem numQ_rem {l : List Int} {k n : Nat} {B S : List Int} (hB : B.length = n) (h : l.drop k = B ++ S) (hk : k ≤ l.length) : numQ l k n = some (beOf B) ∧ k + n ≤ l.length := by
  have hl : (l.drop k).length = n + S.length := by rw [h, List.length_append, hB]
  rw [List.length_drop] at hl
  unfold numQ
  rw [if_pos (by omega), h, List.take_left' hB]
  exact ⟨rfl, by omega⟩
theorem drop_rem {l : List Int} {k n : Nat} {B S : List Int} (hB : B.length = n) (h : l.drop k = B ++ S) : l.drop (k + n) = S := by
  rw [← List.drop_drop, h, List.drop_left' hB]
theorem rd32_rem {r : Rd} {v : Int} {S : List Int} (h : Rem r (bytesBe 4 v ++ S)) (hv : IsU v) : (rd32 r).1 = v ∧ Rem (rd32 r).2 S ∧ (rd32 r).2.l = r.l := by
  obtain ⟨l, k, e⟩ := r
  obtain ⟨h0, h1, h2⟩ := h
  simp only at h0 h1 h2
  subst h0
  unfold IsU at hv
  obtain ⟨hq, hk⟩ := numQ_rem (len_be 4 v) h1 h2
  rw [be_back_4 v hv.1 (by omega)] at hq
  have hR : u32P l k = ⟨v, 0, k + 4⟩ := by unfold u32P; rw [hq]
  have e1 : rd32 ⟨l, k, 0⟩ = (v, ⟨l, k + 4, 0⟩) := by unfold rd32; simp only [hR]; simp [ansV, ansR]
  rw [e1]
  exact ⟨rfl, ⟨rfl, drop_rem (len_be 4 v) h1, hk⟩, rfl⟩
theorem rdBy_rem {r : Rd} {b S : List Int} {most : Int} (h : Rem r (fuL b ++ S)) (hm : (b.length : Int) ≤ most) (hb : b.length < 4294967296) : (rdBy most r).1 = b ∧ Rem (rdBy most r).2 S ∧ (rdBy most r).2.l = r.l := by
  obtain ⟨l, k, e⟩ := r
  obtain ⟨h0, h1, h2⟩ := h
  simp only at h0 h1 h2
  subst h0
  have h1' : l.drop k = bytesBe 4 b.length ++ (pdL b ++ S) := by rw [h1, fuL, List.append_assoc]
  obtain ⟨hq, hk⟩ := numQ_rem (len_be 4 _) h1' h2
  rw [be_back_4 _ (by omega) (by omega)] at hq
  have h3 := drop_rem (len_be 4 _) h1'
  have hll : (l.drop (k + 4)).length = b.length + pad4 b.length + S.length := by rw [h3, List.length_append, pdL_len]
  rw [List.length_drop] at hll
  have hF : fixP l (k + 4) b.length = ⟨b, 0, k + 4 + (b.length + pad4 b.length)⟩ := by
    unfold fixP
    rw [if_neg (by omega), Int.toNat_natCast, if_neg (by omega)]
    have e1 : (l.drop (k + 4 + b.length)).take (pad4 b.length) = List.replicate (pad4 b.length) 0 := by
      rw [← List.drop_drop, h3, pdL, List.append_assoc, List.drop_left, List.take_left' (by simp)]
    have e2 : (l.drop (k + 4)).take b.length = b := by rw [h3, pdL, List.append_assoc, List.take_left]
    rw [e1, e2, if_pos (by simp)]
  have hR : cntP l k most = ⟨b, 0, k + 4 + (b.length + pad4 b.length)⟩ := by
    unfold cntP
    rw [hq]
    simp only
    rw [if_neg (by omega)]
    exact hF
  have e1 : rdBy most ⟨l, k, 0⟩ = (b, ⟨l, k + 4 + (b.length + pad4 b.length), 0⟩) := by unfold rdBy; simp only [hR]; simp [ansV, ansR]
  rw [e1]
  refine ⟨rfl, ⟨rfl, ?_, by show k + 4 + (b.length + pad4 b.length) ≤ l.length; omega⟩, rfl⟩
  show l.drop (k + 4 + (b.length + pad4 b.length)) = S
  rw [← List.drop_drop, h3, List.drop_left' (pdL_len b)]
/-- n numbers read. -/
def rdNs : Nat → Rd → List Int × Rd
  | 0, r => ([], r)
  | n + 1, r => ((rd32 r).1 :: (rdNs n (rd32 r).2).1, (rdNs n (rd32 r).2).2)
theorem rdNs_rem (vs : List Int) (S : List Int) (hv : ∀ v ∈ vs, IsU v) : ∀ r : Rd, Rem r (nuL 4 vs ++ S) → (rdNs vs.length r).1 = vs ∧ Rem (rdNs vs.length r).2 S ∧ (rdNs vs.length r).2.l = r.l := by
  induction vs with
  | nil => intro r h; exact ⟨rfl, by simpa [rdNs] using h, rfl⟩
  | cons v vs ih =>
    intro r h
    have h' : Rem r (bytesBe 4 v ++ (nuL 4 vs ++ S)) := by simpa [List.append_assoc] using h
    obtain ⟨a1, a2, a3⟩ := rd32_rem h' (hv v (by simp))
    obtain ⟨b1, b2, b3⟩ := ih (fun x hx => hv x (by simp [hx])) _ a2
    simp only [List.length_cons, rdNs]
    exact ⟨by rw [a1, b1], b2, b3.trans a3⟩
/-- Who calls. -/
structure Cr where
  uid : Int
  gid : Int
  gids : List Int
  deriving DecidableEq
/-- Credentials of kind 1. -/
def sysP (b : List Int) : Option Cr :=
  let r1 := (rd32 ⟨b, 0, 0⟩).2
  let r2 := (rdBy 255 r1).2
  let u := rd32 r2
  let g := rd32 u.2
  let n := rd32 g.2
  if 16 < n.1 then none else
  let s := rdNs n.1.toNat n.2
  if s.2.e = 0 ∧ s.2.l.length - s.2.k = 0 then some ⟨u.1, g.1, s.1⟩ else none
/-- Credentials as they are written. -/
def sysL (c : Cr) : List Int := nuL 4 ([0, 0, c.uid, c.gid, (min 16 c.gids.length : Nat)] ++ c.gids.take (min 16 c.gids.length))
theorem sysL_len (c : Cr) : (sysL c).length = 20 + 4 * min 16 c.gids.length := by
  unfold sysL
  rw [nuL_len, List.length_append, List.length_take]
  simp only [List.length_cons, List.length_nil]
  omega
theorem sys_back (c : Cr) (hu : IsU c.uid) (hg : IsU c.gid) (hs : ∀ x ∈ c.gids, IsU x) : sysP (sysL c) = some ⟨c.uid, c.gid, c.gids.take 16⟩ := by
  obtain ⟨u, g, gs⟩ := c
  simp only at hu hg hs
  obtain ⟨n, hn⟩ : ∃ n, min 16 gs.length = n := ⟨_, rfl⟩
  have hn16 : n ≤ 16 := by omega
  have htk : gs.take n = gs.take 16 := by
    by_cases h : gs.length ≤ 16
    · rw [List.take_of_length_le (by omega), List.take_of_length_le h]
    · rw [show n = 16 by omega]
  have hL : sysL ⟨u, g, gs⟩ = bytesBe 4 0 ++ (fuL [] ++ (bytesBe 4 u ++ (bytesBe 4 g ++ (bytesBe 4 n ++ (nuL 4 (gs.take n) ++ []))))) := by
    have e : fuL ([] : List Int) = bytesBe 4 0 := by decide
    rw [e]
    unfold sysL
    simp only [hn]
    simp
  have h0 : Rem ⟨sysL ⟨u, g, gs⟩, 0, 0⟩ (bytesBe 4 0 ++ (fuL [] ++ (bytesBe 4 u ++ (bytesBe 4 g ++ (bytesBe 4 n ++ (nuL 4 (gs.take n) ++ [])))))) := ⟨rfl, by rw [List.drop_zero, ← hL], Nat.zero_le _⟩
  obtain ⟨_, a2, a3⟩ := rd32_rem h0 (by unfold IsU; omega)
  obtain ⟨_, b2, b3⟩ := rdBy_rem (most := 255) a2 (by simp) (by simp)
  obtain ⟨c1, c2, c3⟩ := rd32_rem b2 hu
  obtain ⟨d1, d2, d3⟩ := rd32_rem c2 hg
  obtain ⟨e1, e2, e3⟩ := rd32_rem d2 (by unfold IsU; omega)
  have hlen : (gs.take n).length = n := by rw [List.length_take]; omega
  obtain ⟨f1, f2, f3⟩ := rdNs_rem (gs.take n) [] (fun x hx => hs x (List.mem_of_mem_take hx)) _ e2
  rw [hlen] at f1 f2 f3
  unfold sysP
  simp only [e1]
  rw [if_neg (by omega), Int.toNat_natCast]
  obtain ⟨g0, g1, g2⟩ := f2
  have hz : (rdNs n (rd32 (rd32 (rd32 (rdBy 255 (rd32 ⟨sysL ⟨u, g, gs⟩, 0, 0⟩).2).2).2).2).2).2.l.length - (rdNs n (rd32 (rd32 (rd32 (rdBy 255 (rd32 ⟨sysL ⟨u, g, gs⟩, 0, 0⟩).2).2).2).2).2).2.k = 0 := by
    have := congrArg List.length g1
    rw [List.length_drop] at this
    simpa using this
  rw [if_pos ⟨g0, hz⟩, c1, d1, f1, htk]
end Go.Proofs.YtbfdkbdjipiliaaDoor

/- Calls and answers as bytes: pure. -/
namespace Go.Proofs.YtbfdkbdjipiliaaDoor
open Go.RowKit Go.Maps
set_option linter.unusedVariables false

/-- A call. -/
structure Ca where
  xid : Int
  prog : Int
  vers : Int
  proc : Int
  cr : Cr
  body : List Int
  deriving DecidableEq
def Cr0 : Cr := ⟨0, 0, []⟩
def Ca0 : Ca := ⟨0, 0, 0, 0, Cr0, []⟩
/-- A call as it is written. -/
def callL (c : Ca) : List Int := nuL 4 [c.xid, 0, 2, c.prog, c.vers, c.proc, 1] ++ (fuL (sysL c.cr) ++ (bytesBe 4 0 ++ (bytesBe 4 0 ++ c.body)))
/-- What is said of a call that is one: the call, an error, what is answered. -/
def judP (c : Ca) : Ca × Int × List Int :=
  if c.prog ≠ 100003 ∧ c.prog ≠ 100005 then (Ca0, 34, nuL 4 [c.xid, 1, 0, 0, 0, 1])
  else if c.vers ≠ 3 then (Ca0, 35, nuL 4 [c.xid, 1, 0, 0, 0, 2, 3, 3])
  else if 21 < c.proc ∨ c.prog = 100005 ∧ 5 < c.proc then (Ca0, 36, nuL 4 [c.xid, 1, 0, 0, 0, 3])
  else (c, 0, [])
/-- Why credentials are none, and who they are. -/
def crdP (ck : Int) (cb : List Int) : Int × Cr :=
  if ck = 0 then (if 0 < cb.length then 1 else 0, ⟨65534, 65534, []⟩)
  else if ck = 1 then (match sysP cb with | none => (1, Cr0) | some x => (0, x)) else (5, Cr0)
def whyP (w : Int) (vk : Int) (vb : List Int) : Int := if w = 0 ∧ (vk ≠ 0 ∨ 0 < vb.length) then 3 else w
/-- Bytes read as a call. -/
def parseP (b : List Int) : Ca × Int × List Int :=
  let x := rd32 ⟨b, 0, 0⟩
  let kd := rd32 x.2
  let vr := rd32 kd.2
  if vr.2.e ≠ 0 ∨ kd.1 ≠ 0 then (Ca0, 31, []) else
  if vr.1 ≠ 2 then (Ca0, 31, nuL 4 [x.1, 1, 1, 0, 2, 2]) else
  let pg := rd32 vr.2
  let vs := rd32 pg.2
  let pc := rd32 vs.2
  let ck := rd32 pc.2
  let cb := rdBy 400 ck.2
  let vk := rd32 cb.2
  let vb := rdBy 400 vk.2
  if vb.2.e ≠ 0 then (Ca0, 31, []) else
  let w := whyP (crdP ck.1 cb.1).1 vk.1 vb.1
  if w ≠ 0 then (Ca0, 32, nuL 4 [x.1, 1, 1, 1, w]) else
  judP ⟨x.1, pg.1, vs.1, pc.1, (crdP ck.1 cb.1).2, b.drop vb.2.k⟩
structure Ca.ok (c : Ca) : Prop where
  hx : IsU c.xid
  hp : IsU c.prog
  hv : IsU c.vers
  hc : IsU c.proc
  hu : IsU c.cr.uid
  hg : IsU c.cr.gid
  hs : ∀ x ∈ c.cr.gids, IsU x
/-- A call that was written is read as it: sixteen groups at most. -/
theorem parse_call (c : Ca) (h : c.ok) : parseP (callL c) = judP { c with cr := { c.cr with gids := c.cr.gids.take 16 } } := by
  obtain ⟨xid, prog, vers, proc, ⟨u, g, gs⟩, body⟩ := c
  obtain ⟨hx, hp, hv, hc, hu, hg, hs⟩ := h
  simp only at hx hp hv hc hu hg hs
  have hsl := sysL_len ⟨u, g, gs⟩
  have hL : callL ⟨xid, prog, vers, proc, ⟨u, g, gs⟩, body⟩ = bytesBe 4 xid ++ (bytesBe 4 0 ++ (bytesBe 4 2 ++ (bytesBe 4 prog ++ (bytesBe 4 vers ++ (bytesBe 4 proc ++ (bytesBe 4 1 ++ (fuL (sysL ⟨u, g, gs⟩) ++ (bytesBe 4 0 ++ (fuL [] ++ body))))))))) := by
    have e : fuL ([] : List Int) = bytesBe 4 0 := by decide
    rw [e]
    unfold callL
    simp
  have h0 : Rem ⟨callL ⟨xid, prog, vers, proc, ⟨u, g, gs⟩, body⟩, 0, 0⟩ (bytesBe 4 xid ++ (bytesBe 4 0 ++ (bytesBe 4 2 ++ (bytesBe 4 prog ++ (bytesBe 4 vers ++ (bytesBe 4 proc ++ (bytesBe 4 1 ++ (fuL (sysL ⟨u, g, gs⟩) ++ (bytesBe 4 0 ++ (fuL [] ++ body)))))))))) := ⟨rfl, by rw [List.drop_zero]; exact hL, Nat.zero_le _⟩
  have sB := sys_back ⟨u, g, gs⟩ hu hg hs
  obtain ⟨SL, hSL⟩ : ∃ S, sysL ⟨u, g, gs⟩ = S := ⟨_, rfl⟩
  rw [hSL] at h0 sB hsl
  obtain ⟨B, hB⟩ : ∃ B, callL ⟨xid, prog, vers, proc, ⟨u, g, gs⟩, body⟩ = B := ⟨_, rfl⟩
  rw [hB] at h0 ⊢
  have u0 : IsU 0 := by unfold IsU; omega
  have u1 : IsU 1 := by unfold IsU; omega
  have u2 : IsU 2 := by unfold IsU; omega
  obtain ⟨a1, r1, l1⟩ := rd32_rem h0 hx
  obtain ⟨a2, r2, l2⟩ := rd32_rem r1 u0
  obtain ⟨a3, r3, l3⟩ := rd32_rem r2 u2
  obtain ⟨a4, r4, l4⟩ := rd32_rem r3 hp
  obtain ⟨a5, r5, l5⟩ := rd32_rem r4 hv
  obtain ⟨a6, r6, l6⟩ := rd32_rem r5 hc
  obtain ⟨a7, r7, l7⟩ := rd32_rem r6 u1
  obtain ⟨a8, r8, l8⟩ := rdBy_rem (most := 400) r7 (by omega) (by omega)
  obtain ⟨a9, r9, l9⟩ := rd32_rem r8 u0
  obtain ⟨a10, r10, l10⟩ := rdBy_rem (most := 400) r9 (by simp) (by simp)
  obtain ⟨q3, _, _⟩ := r3
  obtain ⟨q10, d10, _⟩ := r10
  rw [l10, l9, l8, l7, l6, l5, l4, l3, l2, l1] at d10
  unfold parseP
  simp only [a1, a2, a3, a4, a5, a6, a7, a8, a9, a10, q3, q10]
  rw [if_neg (by simp), if_neg (by simp), if_neg (by simp)]
  have hcr : crdP 1 SL = (0, ⟨u, g, gs.take 16⟩) := by
    unfold crdP
    rw [if_neg (by decide), if_pos rfl, sB]
  have hw : whyP (crdP 1 SL).1 0 [] = 0 := by rw [hcr]; unfold whyP; simp
  rw [hw, if_neg (by simp), hcr, d10]
/-- An answer of success; of arguments that cannot be read. -/
def sucL (xid : Int) (body : List Int) : List Int := nuL 4 [xid, 1, 0, 0, 0, 0] ++ body
def garL (xid : Int) : List Int := nuL 4 [xid, 1, 0, 0, 0, 4]
end Go.Proofs.YtbfdkbdjipiliaaDoor
