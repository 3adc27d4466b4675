/- CacheKeeps: the law's rows of sixteen, and what each call leaves of them. -/
import Derived.Test.YtdfnfcimajomeaaCkA
namespace Go.Proofs.Ytdfnfcimajomeaa
open Go.RowKit Go.Maps

abbrev F0 : Nat → Prop := fun _ => False
def r16 (f : Nat → Value) : Array Value := ((List.range 16).map f).toArray
theorem r16_get (f : Nat → Value) {n : Nat} (h : n < 16) : (r16 f)[n]? = some (f n) := by unfold r16; rw [List.getElem?_toArray]; simp [h]
theorem r16_size (f : Nat → Value) : (r16 f).size = 16 := by simp [r16]
theorem r16_set (f : Nat → Value) (n : Nat) (v : Value) : (r16 f).setIfInBounds n v = r16 (fun k => if k = n then v else f k) := by
  apply Array.ext_getElem?
  intro i
  rw [Array.getElem?_setIfInBounds]
  by_cases hi : i < 16
  · rw [r16_get _ hi, r16_get _ hi, r16_size]
    by_cases e : n = i
    · subst e; simp [hi]
    · rw [if_neg e, if_neg (fun e2 => e e2.symm)]
  · have h1 : (r16 f)[i]? = none := Array.getElem?_eq_none (by rw [r16_size]; omega)
    have h2 : (r16 fun k => if k = n then v else f k)[i]? = none := Array.getElem?_eq_none (by rw [r16_size]; omega)
    rw [h1, h2, r16_size]
    by_cases e : n = i
    · rw [if_pos e, if_neg (by omega)]
    · rw [if_neg e]
def upN {α : Type} (f : Nat → α) (n : Nat) (v : α) : Nat → α := fun k => if k = n then v else f k
structure Arr (w0 w : World) (S : Nat → Prop) (gl gd gp : Nat) (L : Nat → ByteArray) (D : Nat → Bool) (P : Nat → Int) : Prop where
  ol : Ow w0 w S F0 gl (r16 fun k => .string (L k)) 9
  od : Ow w0 w S F0 gd (r16 fun k => .bool (D k)) 4
  op : Ow w0 w S F0 gp (r16 fun k => .int .i64 (P k)) 3
section
variable {w0 w w' : World} {S S' : Nat → Prop} {gl gd gp : Nat} {L : Nat → ByteArray} {D : Nat → Bool} {P : Nat → Int}
theorem Arr.keep (h : Arr w0 w S gl gd gp L D P) (hk : Kp S w S' w') : Arr w0 w' S' gl gd gp L D P := ⟨h.ol.c1 hk, h.od.c1 hk, h.op.c1 hk⟩
theorem Arr.mods (h : Arr w0 w S gl gd gp L D P) {Q : Nat → Prop} (hm : Mods Q w w') (h1 : ¬ Q gl) (h2 : ¬ Q gd) (h3 : ¬ Q gp) : Arr w0 w' S gl gd gp L D P :=
  ⟨⟨(hm.block _ h.ol.glt h1).trans h.ol.hh, h.ol.ns, h.ol.nt, h.ol.low⟩, ⟨(hm.block _ h.od.glt h2).trans h.od.hh, h.od.ns, h.od.nt, h.od.low⟩, ⟨(hm.block _ h.op.glt h3).trans h.op.hh, h.op.ns, h.op.nt, h.op.low⟩⟩
theorem Ow.ne {g g' : Nat} {cs cs' : Array Value} {t t' : TypeId} {T T' : Nat → Prop} (h : Ow w0 w S T g cs t) (h' : Ow w0 w S T' g' cs' t') (ht : t ≠ t') : g ≠ g' := fun e => by
  have := h.hh
  rw [e, h'.hh] at this
  simp at this
  exact ht this.2.symm
theorem Arr.setL (h : Arr w0 w S gl gd gp L D P) (n : Nat) (v : ByteArray) : Arr w0 (w.setCell ⟨gl, n, none⟩ (.string v)) S gl gd gp (upN L n v) D P ∧ Mods (fun x => x = gl) w (w.setCell ⟨gl, n, none⟩ (.string v)) := by
  have hm : Mods (fun x => x = gl) w (w.setCell ⟨gl, n, none⟩ (.string v)) := (Mods.refl (fun x => x = gl) w).setCell _ _ _ rfl
  refine ⟨⟨⟨?_, h.ol.ns, h.ol.nt, h.ol.low⟩, ⟨(hm.block _ h.od.glt (h.od.ne h.ol (by decide))).trans h.od.hh, h.od.ns, h.od.nt, h.od.low⟩, ⟨(hm.block _ h.op.glt (h.op.ne h.ol (by decide))).trans h.op.hh, h.op.ns, h.op.nt, h.op.low⟩⟩, hm⟩
  rw [setc h.ol.hh, r16_set]
  congr 2
  unfold r16 upN
  congr 1
  apply List.map_congr_left
  intro k _
  split <;> rfl
theorem Arr.setD (h : Arr w0 w S gl gd gp L D P) (n : Nat) (v : Bool) : Arr w0 (w.setCell ⟨gd, n, none⟩ (.bool v)) S gl gd gp L (upN D n v) P ∧ Mods (fun x => x = gd) w (w.setCell ⟨gd, n, none⟩ (.bool v)) := by
  have hm : Mods (fun x => x = gd) w (w.setCell ⟨gd, n, none⟩ (.bool v)) := (Mods.refl (fun x => x = gd) w).setCell _ _ _ rfl
  refine ⟨⟨⟨(hm.block _ h.ol.glt (h.ol.ne h.od (by decide))).trans h.ol.hh, h.ol.ns, h.ol.nt, h.ol.low⟩, ⟨?_, h.od.ns, h.od.nt, h.od.low⟩, ⟨(hm.block _ h.op.glt (h.op.ne h.od (by decide))).trans h.op.hh, h.op.ns, h.op.nt, h.op.low⟩⟩, hm⟩
  rw [setc h.od.hh, r16_set]
  congr 2
  unfold r16 upN
  congr 1
  apply List.map_congr_left
  intro k _
  split <;> rfl
theorem Arr.setP (h : Arr w0 w S gl gd gp L D P) (n : Nat) (v : Int) : Arr w0 (w.setCell ⟨gp, n, none⟩ (.int .i64 v)) S gl gd gp L D (upN P n v) ∧ Mods (fun x => x = gp) w (w.setCell ⟨gp, n, none⟩ (.int .i64 v)) := by
  have hm : Mods (fun x => x = gp) w (w.setCell ⟨gp, n, none⟩ (.int .i64 v)) := (Mods.refl (fun x => x = gp) w).setCell _ _ _ rfl
  refine ⟨⟨⟨(hm.block _ h.ol.glt (h.ol.ne h.op (by decide))).trans h.ol.hh, h.ol.ns, h.ol.nt, h.ol.low⟩, ⟨(hm.block _ h.od.glt (h.od.ne h.op (by decide))).trans h.od.hh, h.od.ns, h.od.nt, h.od.low⟩, ⟨?_, h.op.ns, h.op.nt, h.op.low⟩⟩, hm⟩
  rw [setc h.op.hh, r16_set]
  congr 2
  unfold r16 upN
  congr 1
  apply List.map_congr_left
  intro k _
  split <;> rfl
theorem Arr.cells (h : Arr w0 w S gl gd gp L D P) {n : Nat} (hn : n < 16) : w.cell? ⟨gl, n, none⟩ = some (.string (L n)) ∧ w.cell? ⟨gd, n, none⟩ = some (.bool (D n)) ∧ w.cell? ⟨gp, n, none⟩ = some (.int .i64 (P n)) ∧ w.frozen? ⟨gl, n, none⟩ = false ∧ w.frozen? ⟨gd, n, none⟩ = false ∧ w.frozen? ⟨gp, n, none⟩ = false :=
  ⟨cell_of h.ol.hh (r16_get _ hn), cell_of h.od.hh (r16_get _ hn), cell_of h.op.hh (r16_get _ hn), froz_of h.ol.hh _, froz_of h.od.hh _, froz_of h.op.hh _⟩
end
/-- What the law's rows say of the cache. -/
structure Ki (A : Cs) (m : Nat) (L : Nat → ByteArray) (D : Nat → Bool) (P : Nat → Int) : Prop where
  nd : (nums A.row).Nodup
  iv : Iv A m
  rg : ∀ x ∈ nums A.row, 0 ≤ x ∧ x < 16
  ad : ∀ k : Nat, k < 16 → D k = dO (vw A.row k)
  ap : ∀ k : Nat, k < 16 → P k = pO (vw A.row k)
  al : ∀ k : Nat, k < 16 → ∀ e, vw A.row k = some e → L k = strOfNums e.dat
section
variable {A : Cs} {m n : Nat} {L : Nat → ByteArray} {D : Nat → Bool} {P : Nat → Int}
theorem Ki.more (h : Ki A m L D P) : Ki A (m + 1) L D P := ⟨h.nd, h.iv.more, h.rg, h.ad, h.ap, h.al⟩
theorem Ki.use (h : Ki A m L D P) {j : Int} (hj : j ∈ nums A.row) : Ki (A.use j) (m + 1) L D P := by
  refine ⟨?_, h.iv.use hj, fun x hx => h.rg x ((use_mem hj x).1 hx), fun k hk => by rw [vw_use h.nd hj]; exact h.ad k hk, fun k hk => by rw [vw_use h.nd hj]; exact h.ap k hk, fun k hk e he => h.al k hk e (by rw [← vw_use h.nd hj]; exact he)⟩
  rw [nums_use hj, List.nodup_append]
  exact ⟨nd_wo h.nd j, by simp, fun a ha b hb e => by simp at hb; rw [e, hb] at ha; exact (nums_mem_wo.1 ha).2 rfl⟩
/-- One more stands in the row. -/
theorem Ki.add (h : Ki A m L D P) (hn : n < 16) {A1 : Cs} (hr : A.room = some A1) (hm : (n : Int) ∉ nums A.row) (d : List Int) (b : Bool) : Ki (A1.add ⟨n, d, b, 0⟩) (m + 1) (upN L n (strOfNums d)) (upN D n b) P := by
  obtain ⟨hn1, hv⟩ := vw_room h.nd hr
  have hm1 := room_not hr hm
  have hva := fun k => vw_add (A := A1) (e := ⟨n, d, b, 0⟩) hn1 hm1 k
  refine ⟨nd_add hn1 hm1, h.iv.add (room_sub hr).1 ⟨by omega, by omega⟩ d b, fun x hx => ?_, fun k hk => ?_, fun k hk => ?_, fun k hk e he => ?_⟩
  · unfold Cs.add at hx
    rw [nums_app, List.mem_append] at hx
    rcases hx with h1 | h1
    · obtain ⟨y, hy, e⟩ := List.mem_map.1 h1
      exact h.rg x (List.mem_map.2 ⟨y, (room_sub hr).1 y hy, e⟩)
    · simp [nums] at h1; omega
  · rw [hva]
    unfold upN
    by_cases e : k = n
    · rw [if_pos e, if_pos (by rw [e])]; rfl
    · rw [if_neg e, if_neg (fun e2 => e (by exact Int.ofNat_inj.1 e2)), h.ad k hk]
      rcases hv (k : Int) with h1 | ⟨h1, h2, _⟩
      · rw [h1]
      · rw [h1, h2]; rfl
  · rw [hva]
    by_cases e : k = n
    · rw [if_pos (by rw [e]), h.ap k hk, e, vw_none hm]; rfl
    · rw [if_neg (fun e2 => e (by exact Int.ofNat_inj.1 e2)), h.ap k hk]
      rcases hv (k : Int) with h1 | ⟨h1, _, h2⟩
      · rw [h1]
      · rw [h1, h2]; rfl
  · rw [hva] at he
    unfold upN
    by_cases e1 : k = n
    · rw [if_pos (by rw [e1])] at he
      rw [if_pos e1]
      simp at he
      rw [← he]
    · rw [if_neg (fun e2 => e1 (by exact Int.ofNat_inj.1 e2))] at he
      rw [if_neg e1]
      rcases hv (k : Int) with h1 | ⟨h1, _⟩
      · exact h.al k hk e (by rw [← h1]; exact he)
      · rw [h1] at he; cases he
/-- An entry is another one. -/
theorem Ki.chg (h : Ki A m L D P) (hm : (n : Int) ∈ nums A.row) (f : Ec → Ec) (hf : ∀ e, (f e).num = e.num) (hiv : Iv (A.chg n f) (m + 1)) (s : ByteArray) (hs : s = strOfNums (f (A.at n)).dat) : Ki (A.chg n f) (m + 1) (upN L n s) (upN D n (f (A.at n)).dirty) (upN P n (f (A.at n)).pins) := by
  have hvc := fun k => vw_chg (A := A) h.nd f hf n k
  have hat : vw A.row n = some (A.at n) := vw_has hm
  refine ⟨by rw [nums_chg A n f hf]; exact h.nd, hiv, by rw [nums_chg A n f hf]; exact h.rg, fun k hk => ?_, fun k hk => ?_, fun k hk e he => ?_⟩
  · rw [hvc]
    unfold upN
    by_cases e : k = n
    · rw [if_pos e, if_pos (by rw [e]), e, hat]; rfl
    · rw [if_neg e, if_neg (fun e2 => e (by exact Int.ofNat_inj.1 e2)), h.ad k hk]
  · rw [hvc]
    unfold upN
    by_cases e : k = n
    · rw [if_pos e, if_pos (by rw [e]), e, hat]; rfl
    · rw [if_neg e, if_neg (fun e2 => e (by exact Int.ofNat_inj.1 e2)), h.ap k hk]
  · rw [hvc] at he
    unfold upN
    by_cases e1 : k = n
    · rw [if_pos (by rw [e1]), e1, hat] at he
      rw [if_pos e1, hs]
      simp at he
      rw [← he]
    · rw [if_neg (fun e2 => e1 (by exact Int.ofNat_inj.1 e2))] at he
      rw [if_neg e1]
      exact h.al k hk e he
theorem Ki.drop (h : Ki A m L D P) {j : Int} (hj : j ∈ nums A.row) (hmay : may (A.at j) = true) : Ki (A.cut j) (m + 1) L D P := by
  have hvc := fun k => vw_cut (A := A) h.nd j k
  unfold may at hmay
  simp at hmay
  refine ⟨nd_wo h.nd j, h.iv.sub (fun e he => (mem_wo.1 he).1), fun x hx => h.rg x (nums_mem_wo.1 hx).1, fun k hk => ?_, fun k hk => ?_, fun k hk e he => ?_⟩
  · rw [hvc, h.ad k hk]
    split
    · rename_i e; rw [e, vw_has hj]; exact hmay.1
    · rfl
  · rw [hvc, h.ap k hk]
    split
    · rename_i e; rw [e, vw_has hj]; exact hmay.2
    · rfl
  · rw [hvc] at he
    split at he
    · cases he
    · exact h.al k hk e he
theorem upN_same {α : Type} (f : Nat → α) (n : Nat) : upN f n (f n) = f := by funext k; unfold upN; split; rename_i e; rw [e]; rfl
theorem Ki.at (h : Ki A m L D P) (hn : n < 16) (hm : (n : Int) ∈ nums A.row) : D n = (A.at n).dirty ∧ P n = (A.at n).pins ∧ L n = strOfNums (A.at n).dat := by
  have hv : vw A.row n = some (A.at n) := vw_has hm
  exact ⟨by rw [h.ad n hn, hv]; rfl, by rw [h.ap n hn, hv]; rfl, h.al n hn _ hv⟩
end
end Go.Proofs.Ytdfnfcimajomeaa
