/- vnet: rows of frames, Receive. -/
import Derived.Test.YtdjghkngiicncaaGreatNetI
namespace Go.Proofs.YtdjghkngiicncaaGreat
open Go.RowKit

def celV (r : Nat × Nat × List Int) : Value := .slice (some ⟨r.1, 0, none⟩) r.2.2.length r.2.1
/-- A row of frames in blocks of 'al'. -/
def FmRow (w : World) (al : Nat → Prop) (v : Value) (Ls : List (List Int)) : Prop :=
  ∃ R : List (Nat × Nat × List Int), R.map (·.2.2) = Ls ∧ w.ownsRow 0 25 1 v R.length (R.map celV) ∧ (∀ r ∈ R, Blk w r.1 r.2.2 ∧ al r.1) ∧ ∀ b, v.ownBlock = some b → al b
theorem FmRow.keep {w w' : World} {al : Nat → Prop} {v : Value} {Ls : List (List Int)} (h : FmRow w al v Ls) (hk : ∀ b, al b → b < w.heap.size → w'.heap[b]? = w.heap[b]?) : FmRow w' al v Ls := by
  obtain ⟨R, h1, h2, h3, h4⟩ := h
  exact ⟨R, h1, owns_keep h2 (fun b hb => hk b (h4 b hb) (owns_lt h2 hb).1), fun r hr => ⟨Mem.keep (h3 r hr).1 (hk _ (h3 r hr).2 (h3 r hr).1.lt), (h3 r hr).2⟩, h4⟩
theorem FmRow.weak {w : World} {al al' : Nat → Prop} {v : Value} {Ls : List (List Int)} (h : FmRow w al v Ls) (hk : ∀ b, al b → b < w.heap.size → al' b) : FmRow w al' v Ls := by
  obtain ⟨R, h1, h2, h3, h4⟩ := h
  exact ⟨R, h1, h2, fun r hr => ⟨(h3 r hr).1, hk _ (h3 r hr).2 (h3 r hr).1.lt⟩, fun b hb => hk b (h4 b hb) (owns_lt h2 hb).1⟩
theorem FmRow.nil (w : World) (al : Nat → Prop) : FmRow w al (.slice none 0 0) [] := ⟨[], rfl, ⟨rfl, .inl ⟨rfl, rfl⟩⟩, by simp, fun b hb => by simp [Value.ownBlock] at hb⟩
theorem FmRow.shape {w : World} {al : Nat → Prop} {v : Value} {Ls : List (List Int)} (h : FmRow w al v Ls) : ∃ a c, v = .slice a Ls.length c := by
  obtain ⟨R, h1, h2, _⟩ := h
  obtain ⟨a, c, e⟩ := owns_slice h2
  exact ⟨a, c, by rw [e, ← h1, List.length_map]⟩
theorem info25 : ∃ i, Tryz.prog.info? 25 = some i ∧ i.zero = some (.slice none 0 0) ∧ i.size = 1 ∧ i.bytes = 24 := by
  have : (Tryz.prog.info? 25).map (fun i => (i.zero, i.size, i.bytes)) = some (some (.slice none 0 0), 1, 24) := by kernel_rfl
  cases h : Tryz.prog.info? 25 with
  | none => rw [h] at this; cases this
  | some i => rw [h] at this; simp at this; exact ⟨i, rfl, this.1, this.2.1, this.2.2⟩
theorem wpList_append_row {ops : Array Oper} {rest : List Oper} {o : Oper} {a : Act} {Q : Exit → Act → World → Prop} (hgd : o.guard = none) (s x : Operand)
    (ho : o.op = .call { callee := .builtin .append, args := #[s, x], argTypes := #[44, 44] }) (w : World) (b c n : Nat) (al : Nat → Prop) (L : List Int) (v : Value) (Ls : List (List Int)) (hs : a.eval s = v) (hf : FmRow w al v Ls) (hL : L.length = n) (hb : Blk w b L) (hal : al b) (cp : Nat) (hx : a.eval x = .slice (some ⟨w.heap.size, 0, none⟩) 1 cp)
    (hl : Ls.length ≤ 1048576)
    (h : ∀ (v' : Value) (w' : World), Hid (FmRow w' (fun b => al b ∨ (w.heap.size < b ∧ b < w'.heap.size)) v' (Ls ++ [L])) → Hid (w.heap.size < w'.heap.size) → Hid (Mods (fun b => v.ownBlock = some b) (w.alloc (.cells #[.slice (some ⟨b, 0, none⟩) n c] 25)) w') → wpList Tryz.prog ops Q rest (a.put o.dst v') w') :
    wpList Tryz.prog ops Q (o :: rest) a (w.alloc (.cells #[.slice (some ⟨b, 0, none⟩) n c] 25)) := by
  subst hL
  obtain ⟨R, h1, h2, h3, h4⟩ := hf
  obtain ⟨i0, hi, hz0, hz1, hz2⟩ := info25
  have hRl : R.length = Ls.length := by rw [← h1, List.length_map]
  have hbel : Below w.heap.size w (w.alloc (.cells #[.slice (some ⟨b, 0, none⟩) L.length c] 25)) := (Below.refl _ _).alloc (Nat.le_refl _) _
  have h2' := owns_below h2 hbel
  refine wpList_append_own_at _ hgd s x 44 ho 0 25 i0 _ 1 24 Tryz.underlying44 hi hz0 hz1 hz2 rfl (by decide) v R.length (R.map celV) hs h2' ⟨w.heap.size, 0, none⟩ 1 cp [.slice (some ⟨b, 0, none⟩) L.length c] hx rfl (fun j u hj => ?_) (by intro u hu; simp at hu; subst hu; rfl) (by unfold maxLen; omega) (by omega) (by simp) ?_
  · have hj1 : j < 1 := (List.getElem?_eq_some_iff.1 hj).1
    rw [add_addr, Nat.zero_add, new_cell w _ _ _ j (by simpa using hj1)]
    obtain rfl : j = 0 := by omega
    simpa using hj
  · intro v' w' e1 e2 _ e4
    have hsz : w.heap.size < w'.heap.size := Nat.lt_of_lt_of_le (by simp) e2.size
    have hkeep : ∀ g, Mem w g 0 (fun _ => 0) → w'.heap[g]? = w.heap[g]? := fun g hg => by
      have hgl := hg.lt
      rw [e2.block g (Nat.lt_of_lt_of_le hgl hbel.size) (fun e => by
        obtain ⟨cur, hcur⟩ := owns_kind h2 e.symm
        obtain ⟨⟨c5, hc5, _⟩, _⟩ := hg
        rw [hcur] at hc5
        simp at hc5), hbel.block g hgl]
    have zero_of : ∀ {g : Nat} {M : List Int}, Blk w g M → Mem w g 0 (fun _ => 0) := fun {g M} hg => ⟨let ⟨c5, hc5, _, _⟩ := hg.1; ⟨c5, hc5, Nat.zero_le _, fun i hi => absurd hi (by omega)⟩, fun i hi => absurd hi (by omega)⟩
    refine h v' w' (hid ⟨R ++ [(b, c, L)], by simp [h1], ?_, fun r hr => ?_, fun g hg => ?_⟩) (hid hsz) (hid ?_)
    · rw [List.length_append, List.map_append]
      exact e1
    · rcases List.mem_append.1 hr with h5 | h5
      · exact ⟨Mem.keep (h3 r h5).1 (hkeep _ (zero_of (h3 r h5).1)), .inl (h3 r h5).2⟩
      · simp at h5
        subst h5
        exact ⟨Mem.keep hb (hkeep _ (zero_of hb)), .inl hal⟩
    · rcases e4 with e4 | e4
      · rw [e4] at hg; exact .inl (h4 g hg)
      · have h6 := (owns_lt e1 hg).1
        rw [e4] at hg
        simp at hg
        exact .inr ⟨by omega, h6⟩
    · exact (Mods.refl _ _).grown e2 (fun g hg => .inl hg)

/-- A frame that lies at z with its head. -/
def frAt (f : Nat → Int) (z len : Nat) : List Int := (at_ f z len).drop 12
def recvN (H : Nh) : Nat → Sd → List (List Int) → Sd × List (List Int)
  | 0, S, Ls => (S, Ls)
  | k + 1, S, Ls =>
    if (usedR H.qi S).2.2 = 0 then
      recvN H k (addS H.qi (usedS H.qi S) ⟨(H.fi + (usedR H.qi S).1.toNat * 1528 : Nat), 1526, true⟩) (if fdB (usedR H.qi S).2.1 then Ls ++ [frAt S.f (H.fi + (usedR H.qi S).1.toNat * 1528) (usedR H.qi S).2.1.toNat] else Ls)
    else recvN H k (usedS H.qi S) Ls
def recvS (H : Nh) (S : Sd) (Ls : List (List Int)) : Sd × List (List Int) := recvN H (more H.qi S) S Ls
theorem recv_none {H : Nh} {S : Sd} {Ls : List (List Int)} (h : Ok H.qi S) (he : (usedR H.qi S).2.2 = 2) : recvS H S Ls = (S, Ls) := by
  unfold recvS
  rw [h.more0.2 (usedR_none.1 he)]
  rfl
theorem recv_bad {H : Nh} {S : Sd} {Ls : List (List Int)} (h : Ok H.qi S) (he : (usedR H.qi S).2.2 = 15) : recvS H S Ls = recvS H (usedS H.qi S) Ls := by
  unfold recvS
  rw [usedS_step h (fun e => by rw [usedR_none.2 e] at he; omega)]
  rw [recvN, if_neg (by omega)]
theorem addF_up (f : Nat → Int) (q : Qu) (A : Abs) (b : Bf) (hx : A.free.getD 0 0 < q.n) (hf : 0 < A.free.length) (p m : Nat) (hp : q.pu ≤ p) : rd (addF f q A [b]) p m = rd f p m := by
  have h1 := q.geo.epo
  have h2 := q.geo.epu
  have h3 := Nat.mod_lt A.offers (show 0 < q.n from q.geo.n1)
  unfold addF
  rw [rd_wr_other _ _ _ _ _ _ (by omega), rd_wr_other _ _ _ _ _ _ (by omega)]
  refine layTo_other _ _ _ _ _ _ _ (fun j hj => ?_)
  simp at hj
  subst hj
  rw [List.length_singleton, take_one hf]
  generalize A.free.getD 0 0 = x at *
  show p + m ≤ q.base + x * 16 ∨ q.base + x * 16 + 16 ≤ p
  omega
theorem addF_isB {f : Nat → Int} {q : Qu} {A : Abs} {b : Bf} {N : Nat} (h : ∀ i, i < N → IsB (f i)) : ∀ i, i < N → IsB (addF f q A [b] i) := by
  unfold addF
  exact wr_b (wr_b (wr_b (wr_b (wr_b (wr_b h)))))
theorem addS_more {q : Qu} {S : Sd} {b : Bf} (hx : S.A.free.getD 0 0 < q.n) (hf : 0 < S.A.free.length) : more q (addS q S b) = more q S := by
  unfold more addS
  simp only
  rw [addF_up _ _ _ _ hx hf _ _ (by omega)]
  rfl
theorem Ok.add {q : Qu} {S : Sd} (h : Ok q S) (hf : 0 < S.A.free.length) (b : Bf) : Ok q (addS q S b) := ⟨addF_isB h.b, h.o, h.u, AddA_wf h.wf 1 (by omega) hf⟩
/-- What Used tells of a chain in flight. -/
theorem used_ok {q : Qu} {S : Sd} (h : Ok q S) (h1 : One S.A) (hf : S.A.free = []) (he : (usedR q S).2.2 = 0) :
    ∃ x : Nat, (usedR q S).1 = x ∧ x < q.n ∧ (usedS q S).A.free = [x] ∧ 0 ≤ (usedR q S).2.1 ∧ (usedR q S).2.1 < 4294967296 := by
  have hg1 := q.geo.epu
  have hg2 := q.geo.fit
  have hk := Nat.mod_lt S.A.uses (show 0 < q.n from q.geo.n1)
  have hb := rd_bd' h.b (q.pu + (4 + S.A.uses % q.n * 8) + 4) 4 (by omega)
  unfold usedR usedS at *
  split at he
  · simp at he
  · rename_i hne
    simp only [if_neg hne] at *
    cases hl : look S.A.fl (rd S.f (q.pu + (4 + S.A.uses % q.n * 8)) 4) with
    | none => rw [hl] at he; simp at he
    | some ch =>
      simp only
      obtain ⟨x, l1, l2, e1, e2, _, _⟩ := look_some hl
      have hc : ch = [x] := h1 (x, ch) (by rw [e1]; simp)
      have hx : x < q.n := by
        have := h.wf.perm.mem_iff (a := x)
        have hm : x ∈ S.A.free ++ S.A.fl.flatMap (·.2) := List.mem_append_right _ (List.mem_flatMap.2 ⟨(x, ch), by rw [e1]; simp, by rw [hc]; simp⟩)
        simpa using this.1 hm
      exact ⟨x, e2.symm, hx, by simp [UseA, hf, hc, srt], hb.1, by simpa using hb.2⟩
theorem recv_ok {H : Nh} {S : Sd} {Ls : List (List Int)} (h : Ok H.qi S) (h1 : One S.A) (hf : S.A.free = []) (he : (usedR H.qi S).2.2 = 0) :
    recvS H S Ls = recvS H (addS H.qi (usedS H.qi S) ⟨(H.fi + (usedR H.qi S).1.toNat * 1528 : Nat), 1526, true⟩) (if fdB (usedR H.qi S).2.1 then Ls ++ [frAt S.f (H.fi + (usedR H.qi S).1.toNat * 1528) (usedR H.qi S).2.1.toNat] else Ls) := by
  obtain ⟨x, e1, e2, e3, _⟩ := used_ok h h1 hf he
  unfold recvS
  rw [addS_more (by rw [e3]; exact e2) (by rw [e3]; simp), usedS_step h (fun e => by rw [usedR_none.2 e] at he; omega)]
  rw [recvN, if_pos he]
end Go.Proofs.YtdjghkngiicncaaGreat
