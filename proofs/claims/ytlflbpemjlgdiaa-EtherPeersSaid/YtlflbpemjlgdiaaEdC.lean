/- Peers: what Learn comes to. -/
import Derived.Test.YtlflbpemjlgdiaaEdB
namespace Go.Proofs.Ytlflbpemjlgdiaa
open Go.RowKit Go.Maps
set_option linter.unusedVariables false

/-- What is known behind 'Learn'. -/
def learnL (L : List Pe) (x : Int) (m : Mac) : List Pe :=
  if x = 0 then L else (if 16 ≤ (dropP L x).length then (dropP L x).drop 1 else dropP L x) ++ [⟨x, m⟩]
theorem look_none {L : List Pe} {x : Int} : lookP L x = none ↔ ∀ e ∈ L, e.ip ≠ x := by
  unfold lookP; rw [List.find?_eq_none]; simp
theorem look_some {L : List Pe} {x : Int} {e : Pe} (h : lookP L x = some e) : e ∈ L ∧ e.ip = x := by
  unfold lookP at h
  have h1 := List.mem_of_find?_eq_some h
  have h2 := List.find?_some h
  exact ⟨h1, by simpa using h2⟩
theorem drop_not {L : List Pe} {x : Int} (h : lookP L x = none) : dropP L x = L := by
  rw [look_none] at h
  unfold dropP
  exact List.filter_eq_self.2 (fun e he => by simp [h e he])
theorem drop_lt {L : List Pe} {x : Int} {e : Pe} (h : lookP L x = some e) : (dropP L x).length < L.length := by
  obtain ⟨h1, h2⟩ := look_some h
  unfold dropP
  exact List.length_filter_lt_length_iff_exists.2 ⟨e, h1, by simp [h2]⟩
theorem drop_head {e : Pe} {L : List Pe} (h : OkL (e :: L)) : dropP (e :: L) e.ip = L := by
  have hn := h.nd
  rw [List.map_cons, List.nodup_cons] at hn
  have h2 : dropP L e.ip = L := drop_not (look_none.2 fun f hf e2 => hn.1 (List.mem_map.2 ⟨f, hf, e2⟩))
  unfold dropP at *
  rw [List.filter_cons]
  simpa using h2
theorem look_dropped (L : List Pe) (x : Int) : lookP (dropP L x) x = none := by rw [look_drop, if_pos rfl]
theorem learn_old {L : List Pe} {x : Int} {m : Mac} {e : Pe} (hx : x ≠ 0) (h : OkL L) (hl : lookP L x = some e) : learnL L x m = dropP L x ++ [⟨x, m⟩] := by
  unfold learnL
  have := drop_lt hl
  have := h.len
  rw [if_neg hx, if_neg (by omega)]
theorem learn_new {L : List Pe} {x : Int} {m : Mac} (hx : x ≠ 0) (hl : lookP L x = none) (h : L.length < 16) : learnL L x m = L ++ [⟨x, m⟩] := by
  unfold learnL
  rw [if_neg hx, drop_not hl, if_neg (by omega)]
theorem learn_full {L : List Pe} {x : Int} {m : Mac} (hx : x ≠ 0) (hl : lookP L x = none) (h : L.length = 16) (hok : OkL L) : learnL L x m = dropP L (L.getD 0 ⟨0, m⟩).ip ++ [⟨x, m⟩] := by
  unfold learnL
  rw [if_neg hx, drop_not hl, if_pos (by omega)]
  match L, h with
  | e :: r, _ => rw [show ((e :: r).getD 0 ⟨0, m⟩) = e from rfl, drop_head hok]; rfl
theorem OkL.push {L : List Pe} (h : OkL L) {x : Int} {m : Mac} (hx : IsU x) (h0 : x ≠ 0) (hm : m.ok) (hl : L.length < 16) (hn : lookP L x = none) : OkL (L ++ [⟨x, m⟩]) := by
  refine ⟨fun e he => ?_, by simp; omega, ?_⟩
  · rcases List.mem_append.1 he with h1 | h1
    · exact h.ok e h1
    · simp at h1; subst h1; exact ⟨hx, h0, hm⟩
  · rw [List.map_append, List.nodup_append]
    refine ⟨h.nd, by simp, fun a ha b hb => ?_⟩
    simp at hb
    subst hb
    obtain ⟨e, he, rfl⟩ := List.mem_map.1 ha
    exact look_none.1 hn e he
theorem lookP_push {L : List Pe} {x : Int} {m : Mac} (hn : lookP L x = none) (k : Int) : lookP (L ++ [⟨x, m⟩]) k = if k = x then some ⟨x, m⟩ else lookP L k := by
  unfold lookP at *
  rw [List.find?_append]
  by_cases h : k = x
  · subst h
    rw [if_pos rfl, hn]
    simp
  · rw [if_neg h]
    cases hk : L.find? (fun e => decide (e.ip = k)) with
    | some e => rfl
    | none => simp; exact fun e => h e.symm
theorem lookM_push {L : List Pe} {x : Int} {m : Mac} (hn : lookP L x = none) : upd (lookM L) x (some (.agg (macC m))) = lookM (L ++ [⟨x, m⟩]) := by
  funext k
  unfold lookM upd
  rw [lookP_push hn]
  by_cases h : k = x <;> simp [h]
theorem info32 : ∃ i, Try.prog.info? 40 = some i ∧ i.zero = some (.int .u32 0) ∧ i.size = 1 ∧ i.bytes = 4 := by
  have h : (Try.prog.info? 40).map (fun i => (i.zero, i.size, i.bytes)) = some (some (.int .u32 0), 1, 4) := by kernel_rfl
  cases hi : Try.prog.info? 40 with
  | none => rw [hi] at h; simp at h
  | some i => rw [hi] at h; simp at h; exact ⟨i, rfl, h.1, h.2.1, h.2.2⟩
/-- What stands behind 'p.macs[ip] = mac; p.ips = append(p.ips, ip)'. -/
theorem learn_tail (w : World) (p n gm k : Nat) (S : Nat → Prop) (own : Mac) (ip : Int) (L : List Pe) (x : Int) (m : Mac) (a : Option Addr) (c : Nat) (hP : w.heap[p]? = some (.cells (peC own ip gm (.slice a k c)) 73 (0, 0))) (hM : MapU w gm n (lookM L)) (hR : w.ownsRow 0 40 1 (.slice a k c) k (u32v (L.map Pe.ip))) (hk : L.length = k)
    (hsp : S p) (hsg : S gm) (hsv : ∀ g, (Value.slice a k c).ownBlock = some g → S g) (hS : ∀ b, S b → b < w.heap.size) (how : own.ok) (hip : IsU ip) (hok : OkL L) (hx : IsU x) (h0 : x ≠ 0) (hm : m.ok) (hl : k < 16) (hn : lookP L x = none) (hnn : n < 1000000) :
    ∃ W5, (Instr.mapUpdate 71 (.map (some gm)) (.int .u32 x) (.agg (macC m))).run Try.prog w.drew = .ok () W5 ∧ W5.heap[p]? = some (.cells (peC own ip gm (.slice a k c)) 73 (0, 0)) ∧ (∀ b, b < w.heap.size → ¬ S b → W5.heap[b]? = w.heap[b]?) ∧
    ∃ a7 c7 w7, (Builtin.append_ #[52, 52] 52 #[.slice a k c, .slice (some ⟨W5.heap.size, 0, none⟩) 1 1]).run Try.prog (W5.alloc (.cells #[.int .u32 x] 40)) = .ok (.slice a7 (k + 1) c7) w7 ∧ w7.heap[p]? = some (.cells (peC own ip gm (.slice a k c)) 73 (0, 0)) ∧
    ∃ S', PeAt (w7.setCell ⟨p, 8, none⟩ (.slice a7 (k + 1) c7)) p S' own ip (n + 1) (L ++ [⟨x, m⟩]) ∧ Kp S w S' (w7.setCell ⟨p, 8, none⟩ (.slice a7 (k + 1) c7)) ∧ ∀ b, S' b → b < (w7.setCell ⟨p, 8, none⟩ (.slice a7 (k + 1) c7)).heap.size := by
  obtain ⟨W5, hup, hM5, hg5⟩ := MapU.put (w := w.drew) (hM.keep rfl) Try.underlying71 (by unfold maxLen; omega) hx (.agg (macC m))
  rw [lookM_push hn] at hM5
  have hne1 : p ≠ gm := fun e => by
    subst e
    obtain ⟨D, ⟨es, c', hh, _⟩, _⟩ := hM
    rw [hP] at hh
    simp at hh
  have hrm : ∀ g, (Value.slice a k c).ownBlock = some g → g ≠ gm := fun g hg e => by
    subst e
    obtain ⟨cur, hk⟩ := owns_kind hR hg
    obtain ⟨D, ⟨es, c', hh, _⟩, _⟩ := hM
    rw [hk] at hh
    simp at hh
  have hrp : ∀ g, (Value.slice a k c).ownBlock = some g → g ≠ p := fun g hg e => by
    subst e
    obtain ⟨cur, hk⟩ := owns_kind hR hg
    rw [hP] at hk
    simp at hk
  have oth : ∀ b, b < w.heap.size → b ≠ gm → W5.heap[b]? = w.heap[b]? := fun b hb hn => hg5.block b hb (fun e => hn (by simpa using e))
  have m5 : Mods S w W5 := ((Mods.refl S w).drew).trans (Mods.of_grown' hg5) (fun b hb => by subst hb; exact .inl hsg)
  have hp5 := (oth p (Array.getElem?_eq_some_iff.1 hP).1 hne1).trans hP
  have hR5 : W5.ownsRow 0 40 1 (.slice a k c) k (u32v (L.map Pe.ip)) := owns_keep hR (fun g hg => oth g (owns_lt hR hg).1 (hrm g hg))
  have b56 : Below W5.heap.size W5 (W5.alloc (.cells #[.int .u32 x] 40)) := below_alloc (Below.refl _ _) (Nat.le_refl _) _
  have hR6 := owns_keep hR5 (fun g hg => b56.block g (owns_lt hR5 hg).1)
  obtain ⟨v7, w7, hap, ho7, hm7, hob7⟩ := app_gen (W5.alloc (.cells #[.int .u32 x] 40)) 52 52 40 _ 4 Try.underlying52 info32 rfl (by omega) (.slice a k c) (u32v (L.map Pe.ip)) k (by simp [hk]) hR6 ⟨W5.heap.size, 0, none⟩ 1 1 [.int .u32 x] rfl (fun j u hj => by
    have hj2 : j < 1 := (List.getElem?_eq_some_iff.1 hj).1
    obtain rfl : j = 0 := by omega
    rw [add_addr, new_cell _ _ _ _ 0 (by simp)]
    simpa using hj) (by simp [Value.oneCell']) (by omega)
  obtain ⟨a7, c7, rfl⟩ := owns_slice ho7
  have hp7 : w7.heap[p]? = _ := (hm7.block p (Nat.lt_of_lt_of_le (Array.getElem?_eq_some_iff.1 hp5).1 b56.size) (fun e => hrp p e rfl)).trans ((b56.block p (Array.getElem?_eq_some_iff.1 hp5).1).trans hp5)
  refine ⟨W5, hup, hp5, fun b hb hn => oth b hb (fun e => hn (by subst e; exact hsg)), a7, c7, w7, hap, hp7, fun b => S b ∨ (Value.slice a7 (k + 1) c7).ownBlock = some b, ?_⟩
  obtain ⟨v7, hv7⟩ : ∃ v, v = Value.slice a7 (k + 1) c7 := ⟨_, rfl⟩
  rw [← hv7] at ho7 hob7 ⊢
  have m8 : Mods (fun b => b = p) w7 (w7.setCell ⟨p, 8, none⟩ v7) := (Mods.refl (fun b => b = p) w7).setCell p 8 v7 rfl
  have hm57 : Mods S W5 w7 := (Mods.of_below b56).trans hm7 (fun b hb => .inl (hsv b hb))
  have hs8 : (w7.setCell ⟨p, 8, none⟩ v7).heap.size = w7.heap.size := by simp [World.setCell]
  have hsz : w.heap.size ≤ w7.heap.size := Nat.le_trans m5.size hm57.size
  have hob : ∀ g, v7.ownBlock = some g → (Value.slice a k c).ownBlock = some g ∨ W5.heap.size ≤ g := fun g hg => by
    rcases hob7 with e | e
    · exact .inl (e ▸ hg)
    · rw [e] at hg; simp at hg; right; omega
  have h7p : ∀ g, v7.ownBlock = some g → g ≠ p := fun g hg e => by
    rcases hob g hg with h1 | h1
    · exact hrp g h1 e
    · have := (Array.getElem?_eq_some_iff.1 hp5).1; omega
  refine ⟨⟨⟨how, hip, hok.push hx h0 hm (by omega) hn, .inl hsp⟩, gm, v7, setc hp7 8 v7, ?_, ?_, .inl hsg, fun g hg => .inr hg⟩, ⟨fun b hb => ?_, ?_⟩, fun b hb => ?_⟩
  · refine hM5.keep ?_
    rw [m8.block gm (Nat.lt_of_lt_of_le hM5.lt hm57.size) (fun e => hne1 e.symm), hm7.block gm (Nat.lt_of_lt_of_le hM5.lt b56.size) (fun e => hrm gm e rfl)]
    exact b56.block gm hM5.lt
  · have e1 : (L ++ [(⟨x, m⟩ : Pe)]).length = k + 1 := by simp [hk]
    have e2 : u32v ((L ++ [(⟨x, m⟩ : Pe)]).map Pe.ip) = u32v (L.map Pe.ip) ++ [.int .u32 x] := by simp
    rw [e1, e2]
    exact owns_keep ho7 (fun g hg => m8.block g (owns_lt ho7 hg).1 (h7p g hg))
  · rcases hb with h1 | h1
    · exact .inl h1
    · rcases hob b h1 with h2 | h2
      · exact .inl (hsv b h2)
      · exact .inr (Nat.le_trans m5.size h2)
  · exact (m5.tr hm57).tr (m8.weak (fun b hb => by subst hb; exact .inl hsp))
  · rw [hs8]
    rcases hb with h1 | h1
    · exact Nat.lt_of_lt_of_le (hS b h1) hsz
    · exact (owns_lt ho7 h1).1
end Go.Proofs.Ytlflbpemjlgdiaa
