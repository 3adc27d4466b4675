/- RefL, RefM in one text. -/
import Derived.Test.YtdjghkngiicncaaGreatSteps
import Derived.Test.YtdjghkngiicncaaGreatRefK
/- The document's driver over the same numbers as the program's: what a call leaves behind. -/
namespace Go.Proofs.YtdjghkngiicncaaGreat
open Go.RowKit

theorem Qu.rgeo (q : Qu) : RGeo q.N q.base q.n q.N := ⟨q.geo.n1, q.geo.n2, q.geo.fit, Nat.le_refl _, q.geo.big⟩

/-- The chains in flight: heads, and the numbers of each in a row of its own. -/
def Fl (w : World) : List (Nat × Value) → List (Nat × List Nat) → Prop
  | [], [] => True
  | a :: F, b :: fl => (a.1 = b.1 ∧ IRow w a.2 b.2) ∧ Fl w F fl
  | _, _ => False
theorem Fl.keep {w w' : World} : ∀ {F : List (Nat × Value)} {fl : List (Nat × List Nat)}, Fl w F fl → (∀ q ∈ F, ∀ b, q.2.ownBlock = some b → w'.heap[b]? = w.heap[b]?) → Fl w' F fl
  | [], [], _, _ => trivial
  | a :: F, b :: fl, ⟨⟨h1, h2⟩, h3⟩, hk => ⟨⟨h1, h2.keep (hk a (by simp))⟩, h3.keep (fun q hq => hk q (by simp [hq]))⟩
theorem Fl.append {w : World} {F' : List (Nat × Value)} {fl' : List (Nat × List Nat)} (h' : Fl w F' fl') : ∀ {F : List (Nat × Value)} {fl : List (Nat × List Nat)}, Fl w F fl → Fl w (F ++ F') (fl ++ fl')
  | [], [], _ => h'
  | _ :: _, _ :: _, ⟨h1, h2⟩ => ⟨h1, Fl.append h' h2⟩
theorem Fl.heads {w : World} : ∀ {F : List (Nat × Value)} {fl : List (Nat × List Nat)}, Fl w F fl → F.map (·.1) = fl.map (·.1)
  | [], [], _ => rfl
  | a :: F, b :: fl, ⟨⟨h1, _⟩, h3⟩ => by rw [List.map_cons, List.map_cons, h1, h3.heads]
theorem Fl.len {w : World} {F : List (Nat × Value)} {fl : List (Nat × List Nat)} (h : Fl w F fl) : F.length = fl.length := by
  have := congrArg List.length h.heads
  simpa using this
theorem Fl.split {w : World} {x : Nat × List Nat} {l2 : List (Nat × List Nat)} : ∀ {l1 : List (Nat × List Nat)} {F : List (Nat × Value)}, Fl w F (l1 ++ x :: l2) → ∃ F1 v F2, F = F1 ++ (x.1, v) :: F2 ∧ Fl w F1 l1 ∧ IRow w v x.2 ∧ Fl w F2 l2
  | [], a :: F, h => by
    obtain ⟨⟨h1, h2⟩, h3⟩ := h
    obtain ⟨a1, a2⟩ := a
    simp only at h1 h2
    subst h1
    exact ⟨[], a2, F, rfl, trivial, h2, h3⟩
  | b :: l1, a :: F, h => by
    obtain ⟨h1, h3⟩ := h
    obtain ⟨F1, v, F2, rfl, k1, k2, k3⟩ := Fl.split (l1 := l1) h3
    exact ⟨a :: F1, v, F2, rfl, ⟨h1, k1⟩, k2, k3⟩
theorem Fl.one {w : World} : ∀ {F : List (Nat × Value)} {fl : List (Nat × List Nat)}, Fl w F fl → ∀ q ∈ F, q.2.oneCell' = true
  | a :: F, b :: fl, ⟨⟨_, h2⟩, h3⟩, q, hq => by
    rcases List.mem_cons.1 hq with rfl | hq
    · obtain ⟨x, c, e⟩ := h2.shape
      rw [e]
      rfl
    · exact h3.one q hq
theorem Fl.kind {w : World} : ∀ {F : List (Nat × Value)} {fl : List (Nat × List Nat)}, Fl w F fl → ∀ x ∈ F, ∀ b, x.2.ownBlock = some b → ∃ cur, w.heap[b]? = some (.cells cur 3 (0, 0))
  | a :: F, b :: fl, ⟨⟨_, h2⟩, h3⟩, x, hx, g, hg => by
    rcases List.mem_cons.1 hx with rfl | hx
    · exact h2.kind hg
    · exact h3.kind x hx g hg
theorem fl_len : ∀ {fl : List (Nat × List Nat)}, (∀ p ∈ fl, p.2.head? = some p.1) → fl.length ≤ (fl.flatMap (·.2)).length
  | [], _ => by simp
  | a :: fl, h => by
    have h1 := fl_len (fl := fl) (fun p hp => h p (by simp [hp]))
    have h2 := h a (by simp)
    have h3 : 0 < a.2.length := by
      cases ha : a.2 with
      | nil => rw [ha] at h2; simp at h2
      | cons _ _ => simp
    rw [List.flatMap_cons, List.length_append, List.length_cons]
    omega
theorem Wf.fl_len {n : Nat} {A : Abs} (h : Wf n A) : A.fl.length ≤ n := by
  have h1 := Go.Proofs.YtdjghkngiicncaaGreat.fl_len h.hd
  have h2 := h.len
  omega

def isT (A : Abs) (i : Nat) : Bool := !(A.free.contains i)
structure RDrvAt (w : World) (p gt : Nat) (vf : Value) (F : List (Nat × Value)) (g : Nat) (q : Qu) (A : Abs) (ar : Nat → Prop) : Prop where
  lt : ∀ b, ar b → b < w.heap.size
  box : RBox w p gt vf g q.N q.N q.base q.n A.offers A.uses
  tk : Tk w gt q.n (isT A)
  row : FRow w vf F
  fl : Fl w F A.fl
  ap : ar p
  agt : ar gt
  avf : ∀ b, vf.ownBlock = some b → ar b
  ach : ∀ x ∈ F, ∀ b, x.2.ownBlock = some b → ar b
  ng : ¬ ar g
/-- The document's driver at p, its blocks ar; its state is A's. -/
def RDrv (w : World) (p g : Nat) (q : Qu) (A : Abs) (ar : Nat → Prop) : Prop := ∃ gt vf F, RDrvAt w p gt vf F g q A ar
theorem RDrv.keep {w w' : World} {p g : Nat} {q : Qu} {A : Abs} {ar : Nat → Prop} (h : RDrv w p g q A ar) (hs : w.heap.size ≤ w'.heap.size) (hk : ∀ b, ar b → w'.heap[b]? = w.heap[b]?) : RDrv w' p g q A ar := by
  obtain ⟨gt, vf, F, d⟩ := h
  exact ⟨gt, vf, F, { lt := fun b hb => Nat.lt_of_lt_of_le (d.lt b hb) hs, box := (hk _ d.ap).trans d.box, tk := d.tk.keep (hk _ d.agt), row := owns_keep d.row (fun b hb => hk b (d.avf b hb)), fl := d.fl.keep (fun x hx b hb => hk b (d.ach x hx b hb)), ap := d.ap, agt := d.agt, avf := d.avf, ach := d.ach, ng := d.ng }⟩
theorem RDrv.lt {w : World} {p g : Nat} {q : Qu} {A : Abs} {ar : Nat → Prop} (h : RDrv w p g q A ar) : ∀ b, ar b → b < w.heap.size := let ⟨_, _, _, d⟩ := h; d.lt
theorem RDrv.ng {w : World} {p g : Nat} {q : Qu} {A : Abs} {ar : Nat → Prop} (h : RDrv w p g q A ar) : ¬ ar g := let ⟨_, _, _, d⟩ := h; d.ng
theorem RDrv.mods {w w' : World} {p g : Nat} {q : Qu} {A : Abs} {ar al' : Nat → Prop} (h : RDrv w p g q A ar) (hm : Mods al' w w') (hn : ∀ b, ar b → ¬ al' b) : RDrv w' p g q A ar :=
  h.keep hm.size (fun b hb => hm.block b (h.lt b hb) (hn b hb))
theorem RDrv.below {w w' : World} {p g : Nat} {q : Qu} {A : Abs} {ar : Nat → Prop} (h : RDrv w p g q A ar) (hm : Below w.heap.size w w') : RDrv w' p g q A ar :=
  h.keep hm.size (fun b hb => hm.block b (h.lt b hb))
/-- What a call of the document's driver leaves. -/
def RStep (w w' : World) (p g : Nat) (q : Qu) (A : Abs) (ar : Nat → Prop) : Prop := ∃ ar', RDrv w' p g q A ar' ∧ (∀ b, ar' b → ar b ∨ w.heap.size ≤ b) ∧ Mods (fun b => ar b ∨ b = g) w w'
theorem RStep.of_below {w w' : World} {p g : Nat} {q : Qu} {A : Abs} {ar : Nat → Prop} (h : RDrv w p g q A ar) (hb : Below w.heap.size w w') : RStep w w' p g q A ar := ⟨ar, h.below hb, fun _ hb => .inl hb, Mods.of_below hb⟩

theorem rising_eqN : ∀ (L L' : List Nat), L.Pairwise (· < ·) → L'.Pairwise (· < ·) → (∀ k, k ∈ L ↔ k ∈ L') → L = L'
  | [], [], _, _, _ => rfl
  | [], y :: r, _, _, h => by have := (h y).2 (by simp); simp at this
  | x :: r, [], _, _, h => by have := (h x).1 (by simp); simp at this
  | x :: r, y :: s, hL, hL', h => by
    rw [List.pairwise_cons] at hL hL'
    have hxy : x = y := by
      have h1 := (h x).1 (by simp)
      have h2 := (h y).2 (by simp)
      rcases List.mem_cons.1 h1 with e | h1
      · exact e
      · rcases List.mem_cons.1 h2 with e | h2
        · exact e.symm
        · have := hL'.1 x h1
          have := hL.1 y h2
          omega
    subst hxy
    congr 1
    refine rising_eqN r s hL.2 hL'.2 (fun k => ⟨fun hk => ?_, fun hk => ?_⟩)
    · rcases List.mem_cons.1 ((h k).1 (List.mem_cons_of_mem _ hk)) with e | h1
      · have := hL.1 k hk; omega
      · exact h1
    · rcases List.mem_cons.1 ((h k).2 (List.mem_cons_of_mem _ hk)) with e | h1
      · have := hL'.1 k hk; omega
      · exact h1
theorem fr_free {n : Nat} {A : Abs} (h : Wf n A) : fr (isT A) n = A.free := by
  refine rising_eqN _ _ ?_ h.srt (fun k => ?_)
  · exact List.Pairwise.filter _ List.pairwise_lt_range
  · unfold fr isT
    rw [List.mem_filter, List.mem_range]
    simp only [Bool.not_not, List.contains_iff_mem]
    exact ⟨fun h1 => h1.2, fun h1 => ⟨h.free_lt h1, h1⟩⟩
theorem isT_add {n : Nat} {A : Abs} (h : Wf n A) (m : Nat) (i : Nat) : isT (AddA A m) i = (isT A i || (A.free.take m).contains i) := by
  have hnd : A.free.Nodup := (List.nodup_append.1 h.nodup).1
  have e : A.free.take m ++ A.free.drop m = A.free := List.take_append_drop m A.free
  rw [← e, List.nodup_append] at hnd
  have hm : i ∈ A.free ↔ i ∈ A.free.take m ∨ i ∈ A.free.drop m := by
    rw [← List.mem_append, e]
  unfold isT AddA
  simp only [List.contains_eq_mem]
  by_cases h1 : i ∈ A.free.take m
  · have h2 : i ∉ A.free.drop m := fun h2 => hnd.2.2 i h1 i h2 rfl
    simp [h1, h2]
  · by_cases h2 : i ∈ A.free.drop m
    · simp [h1, h2, hm]
    · simp [h1, h2, hm]
theorem isT_use {A : Abs} (hd : Int) (ch : List Nat) (i : Nat) : isT (UseA A hd ch) i = (isT A i && !(ch.contains i)) := by
  have hm : i ∈ srt (A.free ++ ch) ↔ i ∈ A.free ∨ i ∈ ch := by rw [(srt_perm _).mem_iff, List.mem_append]
  unfold isT UseA
  simp only [List.contains_eq_mem]
  by_cases h1 : i ∈ A.free
  · simp [h1, hm]
  · by_cases h2 : i ∈ ch
    · simp [h1, h2, hm]
    · simp [h1, h2, hm]

def RUsedPost (w : World) (e : Ending) (w' : World) (p g : Nat) (q : Qu) (A : Abs) (ar : Nat → Prop) (f : Nat → Int) : Prop :=
  (rd f (q.pu + 2) 2 = A.uses ∧ e = .returned (.tuple #[.int .i64 0, .int .i64 0, .int .i64 2]) ∧ RStep w w' p g q A ar) ∨
  (rd f (q.pu + 2) 2 ≠ A.uses ∧ ((look A.fl (rd f (q.pu + (4 + A.uses % q.n * 8)) 4) = none ∧ e = .returned (.tuple #[.int .i64 0, .int .i64 0, .int .i64 15]) ∧ RStep w w' p g q (BadA A) ar) ∨
   ∃ ch, look A.fl (rd f (q.pu + (4 + A.uses % q.n * 8)) 4) = some ch ∧ e = .returned (.tuple #[.int .i64 (rd f (q.pu + (4 + A.uses % q.n * 8)) 4), .int .i64 (rd f (q.pu + (4 + A.uses % q.n * 8) + 4) 4), .int .i64 0]) ∧
     RStep w w' p g q (UseA A (rd f (q.pu + (4 + A.uses % q.n * 8)) 4) ch) ar))

theorem refUsed_any (w : World) (p g : Nat) (q : Qu) (A : Abs) (ar : Nat → Prop) (f : Nat → Int) (hd : RDrv w p g q A ar) (hwf : Wf q.n A) (hm : Mem w g q.N f) :
    Calls Tryz.prog 36 #[.pointer (some ⟨p, 0, none⟩)] w fun e w' => Mem w' g q.N f ∧ RUsedPost w e w' p g q A ar f := by
  obtain ⟨gt, vf, F, d⟩ := hd
  have hfl := d.fl.len
  have hfn := hwf.fl_len
  have hn2 := q.geo.n2
  have epu := q.geo.epu
  obtain ⟨fa, fc, hvf⟩ := owns_slice d.row
  unfold RUsedPost
  rw [epu]
  by_cases h1 : rd f (q.base + 18 * q.n + 4 + 2) 2 = A.uses
  · subst hvf
    refine (refUsed_none w p gt F.length fc fa g q.N q.N q.base q.n q.N A.offers A.uses f d.box hwf.u hm q.rgeo h1).mono ?_
    rintro e w' ⟨rfl, hb⟩
    exact ⟨hm.below hb, .inl ⟨h1, rfl, RStep.of_below ⟨gt, _, F, d⟩ hb⟩⟩
  · cases hl : look A.fl (rd f (q.base + 18 * q.n + 4 + (4 + A.uses % q.n * 8)) 4) with
    | none =>
      have hno := look_none hl
      subst hvf
      have hkp : w.heap[p]? = _ := d.box
      have hpF : ∀ b, (Value.slice fa F.length fc).ownBlock = some b → b ≠ p := fun b hb e => by
        obtain ⟨cur, hk⟩ := owns_kind d.row hb
        rw [e, hkp] at hk
        cases hk
      have hgp : g ≠ p := fun e => d.ng (e ▸ d.ap)
      refine (refUsed_bad w p gt F.length fc fa g q.N q.N q.base q.n q.N A.offers A.uses f d.box hwf.u hm q.rgeo F d.row hpF (by omega) h1 (fun x hx => ?_)).mono ?_
      · have hx2 : x.1 ∈ A.fl.map (·.1) := by rw [← d.fl.heads]; exact List.mem_map.2 ⟨x, hx, rfl⟩
        obtain ⟨y, hy, hy2⟩ := List.mem_map.1 hx2
        rw [← hy2]
        exact hno y hy
      · rintro e w' ⟨rfl, hmo, hbx⟩
        refine ⟨hm.mods hmo hgp, .inr ⟨h1, .inl ⟨rfl, rfl, ar, ⟨gt, .slice fa F.length fc, F, ?_⟩, fun b hb => .inl hb, hmo.weak (fun b e => .inl (.inl (e ▸ d.ap)))⟩⟩⟩
        refine { lt := fun b hb => Nat.lt_of_lt_of_le (d.lt b hb) hmo.size, box := hbx, tk := ?_, row := ?_, fl := ?_, ap := d.ap, agt := d.agt, avf := d.avf, ach := d.ach, ng := d.ng }
        · refine Tk.keep (t := isT A) d.tk (hmo.block gt d.tk.lt (fun e => ?_))
          obtain ⟨ct, hkt, _⟩ := d.tk
          rw [e, hkp] at hkt
          cases hkt
        · exact owns_keep d.row (fun b hb => hmo.block b (owns_lt d.row hb).1 (hpF b hb))
        · refine d.fl.keep (fun x hx b hb => hmo.block b (d.lt b (d.ach x hx b hb)) (fun e => ?_))
          obtain ⟨cur, hk⟩ := d.fl.kind x hx b hb
          rw [e, hkp] at hk
          cases hk
    | some ch =>
      obtain ⟨x, l1, l2, hfe, hxk, hl1, her⟩ := look_some hl
      have hdf := d.fl
      rw [hfe] at hdf
      obtain ⟨F1, v0, F2, hF, k1, k2, k3⟩ := Fl.split hdf
      simp only at hF k2
      have hcl := chain_len hwf hl
      have hlt : ∀ y ∈ ch, y < q.n := fun y hy => by
        have h2 : y ∈ A.free ++ A.fl.flatMap (·.2) := List.mem_append_right _ (List.mem_flatMap.2 ⟨(x, ch), by rw [hfe]; simp, hy⟩)
        have := hwf.perm.mem_iff.1 h2
        simpa using this
      have hfr := hwf.len
      subst hF
      subst hvf
      have hkp : w.heap[p]? = _ := d.box
      obtain ⟨ct, hkt, _⟩ := id d.tk
      have hgp : g ≠ p := fun e => d.ng (e ▸ d.ap)
      have hggt : g ≠ gt := fun e => d.ng (e ▸ d.agt)
      refine (refUsed_ok w p gt (F1 ++ (x, v0) :: F2).length fc fa g q.N q.N q.base q.n q.N A.offers A.uses f d.box hwf.u hm q.rgeo F1 F2 x v0 ch (isT A) d.row k2 d.tk hlt ⟨hcl.1, by omega⟩ (by omega) d.fl.one h1 (fun y hy => ?_) hxk).mono ?_
      · have hy2 : y.1 ∈ l1.map (·.1) := by rw [← k1.heads]; exact List.mem_map.2 ⟨y, hy, rfl⟩
        obtain ⟨z, hz, hz2⟩ := List.mem_map.1 hy2
        have := hl1 z hz
        rw [← hz2]
        simpa [hp] using this
      · rintro e w' ⟨rfl, hmo, vf', hbx, htk, hrow, hvn⟩
        refine ⟨hm.mods hmo (by omega), .inr ⟨h1, .inr ⟨ch, rfl, rfl, fun b => ar b ∨ vf'.ownBlock = some b, ⟨gt, vf', F1 ++ F2, ?_⟩, ?_, hmo.weak (fun b e => .inl (.inl (by rcases e with e | e; exact e ▸ d.ap; exact e ▸ d.agt)))⟩⟩⟩
        · have hsz := hmo.size
          have hch : ∀ y ∈ F1 ++ F2, ∀ b, y.2.ownBlock = some b → ar b := fun y hy b hb => d.ach y (by
            rcases List.mem_append.1 hy with h | h
            · exact List.mem_append_left _ h
            · exact List.mem_append_right _ (List.mem_cons_of_mem _ h)) b hb
          have hkeep : ∀ y ∈ F1 ++ F2, ∀ b, y.2.ownBlock = some b → w'.heap[b]? = w.heap[b]? := fun y hy b hb => by
            obtain ⟨cur, hk⟩ := d.fl.kind y (by
              rcases List.mem_append.1 hy with h | h
              · exact List.mem_append_left _ h
              · exact List.mem_append_right _ (List.mem_cons_of_mem _ h)) b hb
            refine hmo.block b (d.lt b (hch y hy b hb)) (fun e => ?_)
            rcases e with e | e
            · rw [e, hkp] at hk; cases hk
            · rw [e, hkt] at hk; cases hk
          refine { lt := ?_, box := hbx, tk := htk.congr (fun i _ => isT_use _ _ i), row := hrow, fl := ?_, ap := .inl d.ap, agt := .inl d.agt, avf := fun b hb => .inr hb, ach := fun y hy b hb => .inl (hch y hy b hb), ng := ?_ }
          · rintro b (hb | hb)
            · exact Nat.lt_of_lt_of_le (d.lt b hb) hsz
            · exact (owns_lt hrow hb).1
          · show Fl w' (F1 ++ F2) (A.fl.eraseP (hp _))
            rw [her]
            exact (Fl.append k3 k1).keep hkeep
          · rintro (hb | hb)
            · exact d.ng hb
            · have := hvn g hb
              have := hm.lt
              omega
        · rintro b (hb | hb)
          · exact .inl hb
          · exact .inr (hvn b hb)
end Go.Proofs.YtdjghkngiicncaaGreat

/- The document's driver over the same numbers: Add, Free, Heads, NewDriver. -/
namespace Go.Proofs.YtdjghkngiicncaaGreat
open Go.RowKit

theorem rAdd_full (w : World) (p g : Nat) (q : Qu) (A : Abs) (ar : Nat → Prop) (hd : RDrv w p g q A ar) (hwf : Wf q.n A) (ab : Option Addr) (m capb : Nat) (bufs : List Bf) (hb : bufs.length = m) (hB : Bufs w ab bufs g) (hok : ∀ b ∈ bufs, okB b) (hm : m ≤ 65536) (h0 : 0 < m) (hf : A.free.length < m) :
    Calls Tryz.prog 39 #[.pointer (some ⟨p, 0, none⟩), .slice ab m capb] w fun e w' => e = .returned (.tuple #[.int .i64 0, .int .i64 7]) ∧ w' = w := by
  obtain ⟨gt, vf, F, d⟩ := hd
  exact refAdd_full w p gt vf g q.N q.N q.base q.n A.offers A.uses (isT A) ab m capb bufs d.box d.tk q.geo.n2 hb hB hm h0 hok (by rw [fr_free hwf]; exact hf)

theorem rAdd_ok (w : World) (p g : Nat) (q : Qu) (A : Abs) (ar : Nat → Prop) (f : Nat → Int) (hd : RDrv w p g q A ar) (hwf : Wf q.n A) (hmem : Mem w g q.N f) (ab : Option Addr) (m capb : Nat) (bufs : List Bf) (hb : bufs.length = m) (hB : Bufs w ab bufs g)
    (haB : ∀ b off, ab = some ⟨b, off, none⟩ → b < w.heap.size ∧ ¬ ar b) (hok : ∀ b ∈ bufs, okB b) (h0 : 0 < m) (hfm : m ≤ A.free.length) :
    Calls Tryz.prog 39 #[.pointer (some ⟨p, 0, none⟩), .slice ab m capb] w fun e w' => e = .returned (.tuple #[.int .i64 (A.free.getD 0 0 : Nat), .int .i64 0]) ∧ RStep w w' p g q (AddA A m) ar ∧ Mem w' g q.N (addF f q A bufs) := by
  obtain ⟨gt, vf, F, d⟩ := hd
  have hfl := d.fl.len
  have hfn := hwf.fl_len
  have hn2 := q.geo.n2
  have epo := q.geo.epo
  obtain ⟨fa, fc, hvf⟩ := owns_slice d.row
  subst hvf
  have hfr := fr_free hwf
  have hk0 : (A.free.take m).getD 0 0 = A.free.getD 0 0 := take_getD _ _ _ h0
  have hkp : w.heap[p]? = _ := d.box
  obtain ⟨ct, hkt, _⟩ := id d.tk
  have hgl := hmem.lt
  refine (refAdd_ok w p gt F.length fc fa g q.N q.N q.base q.n q.N A.offers A.uses f (isT A) F ab m capb bufs d.box hwf.o hmem q.rgeo d.tk d.row d.fl.one (by omega) hb hB (fun b off e => ?_) hok h0 (by rw [hfr]; exact hfm) (A.free.take m) (by rw [hfr])).mono ?_
  · obtain ⟨h1, h2⟩ := haB b off e
    exact ⟨h1, fun e => h2 (e ▸ d.ap), fun e => h2 (e ▸ d.agt)⟩
  · rw [hk0]
    rintro e w' ⟨rfl, hmo, hm', vf', v, hbx, htk, hrow, hir, hvn, hvf'⟩
    have hsz := hmo.size
    have hmo2 : Mods (fun b => ar b ∨ b = g) w w' := hmo.weak (fun b e => .inl (by
      rcases e with e | e | e | e
      · exact .inl (e ▸ d.ap)
      · exact .inl (e ▸ d.agt)
      · exact .inr e
      · exact .inl (d.avf b e)))
    refine ⟨rfl, ⟨fun b => ar b ∨ vf'.ownBlock = some b ∨ v.ownBlock = some b, ⟨gt, vf', F ++ [(A.free.getD 0 0, v)], ?_⟩, ?_, hmo2⟩, ?_⟩
    · refine { lt := ?_, box := hbx, tk := htk.congr (fun i _ => isT_add hwf m i), row := hrow, fl := ?_, ap := .inl d.ap, agt := .inl d.agt, avf := fun b hb => .inr (.inl hb), ach := ?_, ng := ?_ }
      · rintro b (hb | hb | hb)
        · exact Nat.lt_of_lt_of_le (d.lt b hb) hsz
        · exact (owns_lt hrow hb).1
        · exact hir.lt hb
      · show Fl w' (F ++ [(A.free.getD 0 0, v)]) (A.fl ++ [(A.free.getD 0 0, A.free.take m)])
        refine Fl.append (F' := [(A.free.getD 0 0, v)]) (fl' := [(A.free.getD 0 0, A.free.take m)]) ⟨⟨rfl, hir⟩, trivial⟩ (d.fl.keep (fun x hx b hb => ?_))
        obtain ⟨cur, hk⟩ := d.fl.kind x hx b hb
        refine hmo.block b (d.lt b (d.ach x hx b hb)) (fun e => ?_)
        rcases e with e | e | e | e
        · rw [e, hkp] at hk; cases hk
        · rw [e, hkt] at hk; cases hk
        · exact d.ng (e ▸ d.ach x hx b hb)
        · obtain ⟨cur2, hk2⟩ := owns_kind d.row e
          rw [hk2] at hk
          cases hk
      · intro x hx b hb
        rcases List.mem_append.1 hx with hx | hx
        · exact .inl (d.ach x hx b hb)
        · simp only [List.mem_singleton] at hx
          subst hx
          exact .inr (.inr hb)
      · rintro (hb | hb | hb)
        · exact d.ng hb
        · rcases hvf' g hb with h | h
          · exact d.ng (d.avf g h)
          · omega
        · have := hvn g hb
          omega
    · rintro b (hb | hb | hb)
      · exact .inl hb
      · rcases hvf' b hb with h | h
        · exact .inl (d.avf b h)
        · exact .inr h
      · exact .inr (hvn b hb)
    · unfold addF
      rw [hb, epo]
      exact hm'

theorem rFree_any (w : World) (p g : Nat) (q : Qu) (A : Abs) (ar : Nat → Prop) (hd : RDrv w p g q A ar) (hwf : Wf q.n A) :
    Calls Tryz.prog 61 #[.pointer (some ⟨p, 0, none⟩)] w fun e w' => e = .returned (.int .i64 A.free.length) ∧ w' = w := by
  obtain ⟨gt, vf, F, d⟩ := hd
  have h := refFree_any w p gt vf g q.N q.N q.base q.n A.offers A.uses (isT A) d.box d.tk q.geo.n2
  rw [← fr_cnt, fr_free hwf] at h
  exact h
theorem heads_nodup : ∀ {fl : List (Nat × List Nat)}, (∀ p ∈ fl, p.2.head? = some p.1) → (fl.flatMap (·.2)).Nodup → (fl.map (·.1)).Nodup
  | [], _, _ => by simp
  | a :: fl, h, hn => by
    rw [List.flatMap_cons, List.nodup_append] at hn
    rw [List.map_cons, List.nodup_cons]
    refine ⟨fun hm => ?_, heads_nodup (fun p hp => h p (by simp [hp])) hn.2.1⟩
    obtain ⟨b, hb, e⟩ := List.mem_map.1 hm
    exact hn.2.2 a.1 (head_mem (h a (by simp))) b.1 (List.mem_flatMap.2 ⟨b, hb, head_mem (h b (by simp [hb]))⟩) e.symm
theorem rNewDriver_ok (w : World) (q : Qu) (g : Nat) (f : Nat → Int) (hm : Mem w g q.N f) (hp : pow2 q.n = true) :
    Calls Tryz.prog 27 #[.slice (some ⟨g, 0, none⟩) q.N q.N, .int .i64 q.base, .int .i64 q.n] w fun e w' => ∃ p, e = .returned (.tuple #[.pointer (some ⟨p, 0, none⟩), .int .i64 0]) ∧ Mods (fun b => b = g) w w' ∧ Mem w' g q.N (zr f q.base (8 + 26 * q.n)) ∧ ∃ ar, RDrv w' p g q (A0 q.n) ar ∧ ∀ b, ar b → w.heap.size ≤ b := by
  refine (refNewDriver_ok w g q.N q.N q.base q.n q.N f hm q.rgeo hp).mono ?_
  rintro e w' ⟨p, gt, rfl, hmo, hm', hbx, htk, h1, h2⟩
  have hgl := hm.lt
  refine ⟨p, rfl, hmo, hm', fun b => b = p ∨ b = gt, ⟨gt, .slice none 0 0, [], ?_⟩, by rintro b (rfl | rfl) <;> omega⟩
  refine { lt := ?_, box := hbx, tk := htk.congr (fun i hi => ?_), row := ⟨rfl, .inl ⟨rfl, rfl⟩⟩, fl := trivial, ap := .inl rfl, agt := .inr rfl, avf := fun b hb => ?_, ach := fun x hx => ?_, ng := ?_ }
  · rintro b (rfl | rfl)
    · exact hbx.lt
    · exact htk.lt
  · simp [isT, A0, hi]
  · simp [Value.ownBlock] at hb
  · cases hx
  · rintro (e | e) <;> omega
end Go.Proofs.YtdjghkngiicncaaGreat
