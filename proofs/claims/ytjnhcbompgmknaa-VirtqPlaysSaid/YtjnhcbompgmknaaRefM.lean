/- The document's driver over the same numbers: Add, Free, Heads, NewDriver. -/
import Derived.Test.YtjnhcbompgmknaaRefK
import Derived.Test.YtjnhcbompgmknaaRefL
namespace Go.Proofs.Ytjnhcbompgmknaa
open Go.RowKit

theorem rAdd_full (w : World) (p g : Nat) (q : Qu) (A : Abs) (ar : Nat → Prop) (hd : RDrv w p g q A ar) (hwf : Wf q.n A) (ab : Option Addr) (m capb : Nat) (bufs : List Bf) (hb : bufs.length = m) (hB : Bufs w ab bufs g) (hok : ∀ b ∈ bufs, okB b) (hm : m ≤ 65536) (h0 : 0 < m) (hf : A.free.length < m) :
    Calls Try.prog 27 #[.pointer (some ⟨p, 0, none⟩), .slice ab m capb] w fun e w' => e = .returned (.tuple #[.int .i64 0, .int .i64 7]) ∧ w' = w := by
  obtain ⟨gt, vf, F, d⟩ := hd
  exact refAdd_full w p gt vf g q.N q.N q.base q.n A.offers A.uses (isT A) ab m capb bufs d.box d.tk q.geo.n2 hb hB hm h0 hok (by rw [fr_free hwf]; exact hf)

theorem rAdd_ok (w : World) (p g : Nat) (q : Qu) (A : Abs) (ar : Nat → Prop) (f : Nat → Int) (hd : RDrv w p g q A ar) (hwf : Wf q.n A) (hmem : Mem w g q.N f) (ab : Option Addr) (m capb : Nat) (bufs : List Bf) (hb : bufs.length = m) (hB : Bufs w ab bufs g)
    (haB : ∀ b off, ab = some ⟨b, off, none⟩ → b < w.heap.size ∧ ¬ ar b) (hok : ∀ b ∈ bufs, okB b) (h0 : 0 < m) (hfm : m ≤ A.free.length) :
    Calls Try.prog 27 #[.pointer (some ⟨p, 0, none⟩), .slice ab m capb] w fun e w' => e = .returned (.tuple #[.int .i64 (A.free.getD 0 0 : Nat), .int .i64 0]) ∧ RStep w w' p g q (AddA A m) ar ∧ Mem w' g q.N (addF f q A bufs) := by
  obtain ⟨gt, vf, F, d⟩ := hd
  have hfl := d.fl.len
  have hfn := hwf.fl_len
  have hn2 := q.geo.n2
  have epo := q.geo.epo
  obtain ⟨fa, fc, hvf⟩ := owns_slice d.row
  subst hvf
  have hfr := fr_free hwf
  have hk0 : (A.free.take m).getD 0 0 = A.free.getD 0 0 := take_getD _ _ _ h0
  have hkp : w.heap[p]? = _ := d.box
  obtain ⟨ct, hkt, _⟩ := id d.tk
  have hgl := hmem.lt
  refine (refAdd_ok w p gt F.length fc fa g q.N q.N q.base q.n q.N A.offers A.uses f (isT A) F ab m capb bufs d.box hwf.o hmem q.rgeo d.tk d.row d.fl.one (by omega) hb hB (fun b off e => ?_) hok h0 (by rw [hfr]; exact hfm) (A.free.take m) (by rw [hfr])).mono ?_
  · obtain ⟨h1, h2⟩ := haB b off e
    exact ⟨h1, fun e => h2 (e ▸ d.ap), fun e => h2 (e ▸ d.agt)⟩
  · rw [hk0]
    rintro e w' ⟨rfl, hmo, hm', vf', v, hbx, htk, hrow, hir, hvn, hvf'⟩
    have hsz := hmo.size
    have hmo2 : Mods (fun b => ar b ∨ b = g) w w' := hmo.weak (fun b e => .inl (by
      rcases e with e | e | e | e
      · exact .inl (e ▸ d.ap)
      · exact .inl (e ▸ d.agt)
      · exact .inr e
      · exact .inl (d.avf b e)))
    refine ⟨rfl, ⟨fun b => ar b ∨ vf'.ownBlock = some b ∨ v.ownBlock = some b, ⟨gt, vf', F ++ [(A.free.getD 0 0, v)], ?_⟩, ?_, hmo2⟩, ?_⟩
    · refine { lt := ?_, box := hbx, tk := htk.congr (fun i _ => isT_add hwf m i), row := hrow, fl := ?_, ap := .inl d.ap, agt := .inl d.agt, avf := fun b hb => .inr (.inl hb), ach := ?_, ng := ?_ }
      · rintro b (hb | hb | hb)
        · exact Nat.lt_of_lt_of_le (d.lt b hb) hsz
        · exact (owns_lt hrow hb).1
        · exact hir.lt hb
      · show Fl w' (F ++ [(A.free.getD 0 0, v)]) (A.fl ++ [(A.free.getD 0 0, A.free.take m)])
        refine Fl.append (F' := [(A.free.getD 0 0, v)]) (fl' := [(A.free.getD 0 0, A.free.take m)]) ⟨⟨rfl, hir⟩, trivial⟩ (d.fl.keep (fun x hx b hb => ?_))
        obtain ⟨cur, hk⟩ := d.fl.kind x hx b hb
        refine hmo.block b (d.lt b (d.ach x hx b hb)) (fun e => ?_)
        rcases e with e | e | e | e
        · rw [e, hkp] at hk; cases hk
        · rw [e, hkt] at hk; cases hk
        · exact d.ng (e ▸ d.ach x hx b hb)
        · obtain ⟨cur2, hk2⟩ := owns_kind d.row e
          rw [hk2] at hk
          cases hk
      · intro x hx b hb
        rcases List.mem_append.1 hx with hx | hx
        · exact .inl (d.ach x hx b hb)
        · simp only [List.mem_singleton] at hx
          subst hx
          exact .inr (.inr hb)
      · rintro (hb | hb | hb)
        · exact d.ng hb
        · rcases hvf' g hb with h | h
          · exact d.ng (d.avf g h)
          · omega
        · have := hvn g hb
          omega
    · rintro b (hb | hb | hb)
      · exact .inl hb
      · rcases hvf' b hb with h | h
        · exact .inl (d.avf b h)
        · exact .inr h
      · exact .inr (hvn b hb)
    · unfold addF
      rw [hb, epo]
      exact hm'

theorem rFree_any (w : World) (p g : Nat) (q : Qu) (A : Abs) (ar : Nat → Prop) (hd : RDrv w p g q A ar) (hwf : Wf q.n A) :
    Calls Try.prog 13 #[.pointer (some ⟨p, 0, none⟩)] w fun e w' => e = .returned (.int .i64 A.free.length) ∧ w' = w := by
  obtain ⟨gt, vf, F, d⟩ := hd
  have h := refFree_any w p gt vf g q.N q.N q.base q.n A.offers A.uses (isT A) d.box d.tk q.geo.n2
  rw [← fr_cnt, fr_free hwf] at h
  exact h
theorem heads_nodup : ∀ {fl : List (Nat × List Nat)}, (∀ p ∈ fl, p.2.head? = some p.1) → (fl.flatMap (·.2)).Nodup → (fl.map (·.1)).Nodup
  | [], _, _ => by simp
  | a :: fl, h, hn => by
    rw [List.flatMap_cons, List.nodup_append] at hn
    rw [List.map_cons, List.nodup_cons]
    refine ⟨fun hm => ?_, heads_nodup (fun p hp => h p (by simp [hp])) hn.2.1⟩
    obtain ⟨b, hb, e⟩ := List.mem_map.1 hm
    exact hn.2.2 a.1 (head_mem (h a (by simp))) b.1 (List.mem_flatMap.2 ⟨b, hb, head_mem (h b (by simp [hb]))⟩) e.symm
theorem rHeads_any (w : World) (p g : Nat) (q : Qu) (A : Abs) (ar : Nat → Prop) (hd : RDrv w p g q A ar) (hwf : Wf q.n A) (L : List Int) (hL : Flies A L) :
    Calls Try.prog 16 #[.pointer (some ⟨p, 0, none⟩)] w fun e w' => ∃ v, e = .returned v ∧ w'.ownsRow w.heap.size 3 1 v L.length (L.map encZ) ∧ Below w.heap.size w w' := by
  obtain ⟨gt, vf, F, d⟩ := hd
  have hfl := d.fl.len
  have hfn := hwf.fl_len
  have hn2 := q.geo.n2
  have hnd := hwf.nodup
  rw [List.nodup_append] at hnd
  have he : L = hh F q.n := heads_same hL F q.n d.fl.heads (heads_nodup hwf.hd hnd.2.1) (fun p hp => by
    have h2 : p.1 ∈ A.free ++ A.fl.flatMap (·.2) := List.mem_append_right _ (List.mem_flatMap.2 ⟨p, hp, head_mem (hwf.hd p hp)⟩)
    have := hwf.perm.mem_iff.1 h2
    simpa using this)
  rw [he]
  exact refHeads_any w p gt vf g q.N q.N q.base q.n A.offers A.uses F d.box d.row hn2 (by omega)
theorem rNewDriver_ok (w : World) (q : Qu) (g : Nat) (f : Nat → Int) (hm : Mem w g q.N f) (hp : pow2 q.n = true) :
    Calls Try.prog 25 #[.slice (some ⟨g, 0, none⟩) q.N q.N, .int .i64 q.base, .int .i64 q.n] w fun e w' => ∃ p, e = .returned (.tuple #[.pointer (some ⟨p, 0, none⟩), .int .i64 0]) ∧ Mods (fun b => b = g) w w' ∧ Mem w' g q.N (zr f q.base (8 + 26 * q.n)) ∧ ∃ ar, RDrv w' p g q (A0 q.n) ar ∧ ∀ b, ar b → w.heap.size ≤ b := by
  refine (refNewDriver_ok w g q.N q.N q.base q.n q.N f hm q.rgeo hp).mono ?_
  rintro e w' ⟨p, gt, rfl, hmo, hm', hbx, htk, h1, h2⟩
  have hgl := hm.lt
  refine ⟨p, rfl, hmo, hm', fun b => b = p ∨ b = gt, ⟨gt, .slice none 0 0, [], ?_⟩, by rintro b (rfl | rfl) <;> omega⟩
  refine { lt := ?_, box := hbx, tk := htk.congr (fun i hi => ?_), row := ⟨rfl, .inl ⟨rfl, rfl⟩⟩, fl := trivial, ap := .inl rfl, agt := .inr rfl, avf := fun b hb => ?_, ach := fun x hx => ?_, ng := ?_ }
  · rintro b (rfl | rfl)
    · exact hbx.lt
    · exact htk.lt
  · simp [isT, A0, hi]
  · simp [Value.ownBlock] at hb
  · cases hx
  · rintro (e | e) <;> omega
end Go.Proofs.Ytjnhcbompgmknaa
