/- The document's own disk: one block of it turned; Flush. -/
import Derived.Test.YtdbpjdaaggenpaaRefC
namespace Go.Proofs.Ytdbpjdaaggenpaa
open Go.RowKit

theorem mem_set {es : List REnt} {j : Nat} {e' f : REnt} (hf : f ∈ es.set j e') : f = e' ∨ ∃ i, ∃ (hi : i < es.length), i ≠ j ∧ f = es[i] := by
  obtain ⟨i, hi, rfl⟩ := List.getElem_of_mem hf
  rw [List.getElem_set]
  by_cases e : j = i
  · left; simp [e]
  · right
    exact ⟨i, by simpa using hi, fun h => e h.symm, by simp [e]⟩

theorem pair_ne {es : List REnt} (h : es.Pairwise (fun e f => e.at_ ≠ f.at_ ∧ e.ad ≠ f.ad ∧ ∀ g, e.vv.ownBlock = some g → f.vv.ownBlock ≠ some g)) {i j : Nat} (hi : i < es.length) (hj : j < es.length) (hne : i ≠ j) :
    es[i].at_ ≠ es[j].at_ ∧ es[i].ad ≠ es[j].ad ∧ ∀ g, es[i].vv.ownBlock = some g → es[j].vv.ownBlock ≠ some g := by
  rcases Nat.lt_or_gt_of_ne hne with h1 | h1
  · exact List.pairwise_iff_getElem.1 h i j hi hj h1
  · obtain ⟨a, b, c⟩ := List.pairwise_iff_getElem.1 h j i hj hi h1
    exact ⟨fun e => a e.symm, fun e => b e.symm, fun g h2 h3 => c g h3 h2⟩

theorem RDiskAt.upd {w w' : World} {px : Nat} {vL : Value} {es : List REnt} {A A' : Abs} {al al' : Nat → Prop} (d : RDiskAt w px vL es A al) (j : Nat) (hj : j < es.length) (sv' vv' : Value) (hN : A'.N = A.N)
    (hsame : ∀ k, k ≠ es[j].at_ → A'.P k = A.P k ∧ A'.V k = A.V k) (ha : ∀ b, al b → al' b) (hlt : ∀ b, al' b → b < w'.heap.size)
    (hk : ∀ b, al b → b ≠ es[j].ad → es[j].vv.ownBlock ≠ some b → w'.heap[b]? = w.heap[b]?) (hb : w'.heap[es[j].ad]? = some (.cells #[.int .i64 es[j].at_, sv', vv'] 73 (0, 0)))
    (hrow : Row w' al' sv' (plat A' es[j].at_)) (hrows : Rows2 w' al' vv' (A'.V es[j].at_)) (hvv : ∀ g, vv'.ownBlock = some g → es[j].vv.ownBlock = some g ∨ w.heap.size ≤ g) (hvN : A'.V es[j].at_ ≠ [] → 0 ≤ es[j].at_ ∧ es[j].at_ < A.N) :
    RDiskAt w' px vL (es.set j ⟨es[j].at_, es[j].ad, sv', vv'⟩) A' al' := by
  obtain ⟨hbj, haj, hrj, hvj, hIj⟩ := d.ent es[j] (List.getElem_mem hj)
  have hkind : ∀ b cur t, al b → w.heap[b]? = some (.cells cur t (0, 0)) → t ≠ 73 → t ≠ 42 → w'.heap[b]? = w.heap[b]? := fun b cur t hal hcu h1 h2 => by
    refine hk b hal (fun e => ?_) (fun e => ?_)
    · rw [e, hbj] at hcu; cases hcu; exact h1 rfl
    · obtain ⟨_, _, ho, _, _⟩ := hvj
      obtain ⟨c2, h3⟩ := owns_kind ho e
      rw [hcu] at h3; cases h3; exact h2 rfl
  have hmap : (es.set j ⟨es[j].at_, es[j].ad, sv', vv'⟩).map (fun e => Value.pointer (some ⟨e.ad, 0, none⟩)) = es.map (fun e => Value.pointer (some ⟨e.ad, 0, none⟩)) := by
    apply List.ext_getElem
    · simp
    · intro i h1 h2
      simp only [List.getElem_map, List.getElem_set]
      split
      · rename_i e; subst e; rfl
      · rfl
  have hats : ∀ k, (∀ e ∈ es.set j ⟨es[j].at_, es[j].ad, sv', vv'⟩, e.at_ ≠ k) → ∀ e ∈ es, e.at_ ≠ k := fun k h e he => by
    obtain ⟨i, hi, rfl⟩ := List.getElem_of_mem he
    by_cases e2 : i = j
    · subst e2
      exact h ⟨es[i].at_, es[i].ad, sv', vv'⟩ (List.mem_set hj _)
    · have : es[i] ∈ es.set j ⟨es[j].at_, es[j].ad, sv', vv'⟩ := by
        have := List.getElem_mem (l := es.set j ⟨es[j].at_, es[j].ad, sv', vv'⟩) (n := i) (by simpa using hi)
        rw [List.getElem_set] at this
        simpa [Ne.symm e2] using this
      exact h _ this
  refine { lt := hlt, box := ?_, apx := ha _ d.apx, row := ?_, aL := fun g hg => ha g (d.aL g hg), ent := ?_, apart := ?_, none_ := ?_, hN := by rw [hN]; exact d.hN, vN := ?_ }
  · rw [hkind px _ 37 d.apx d.box (by decide) (by decide), hN]; exact d.box
  · rw [List.length_set, hmap]
    exact owns_keep d.row (fun g hg => by obtain ⟨cur, hcu⟩ := owns_kind d.row hg; exact hkind g cur 69 (d.aL g hg) hcu (by decide) (by decide))
  · intro e he
    rcases mem_set he with rfl | ⟨i, hi, hne, rfl⟩
    · exact ⟨hb, ha _ haj, hrow, hrows, hIj⟩
    · obtain ⟨h1, h2, h3, h4, h5⟩ := d.ent es[i] (List.getElem_mem hi)
      obtain ⟨n1, n2, n3⟩ := pair_ne d.apart hi hj hne
      obtain ⟨p1, p2⟩ := hsame _ n1
      have e1 : plat A' es[i].at_ = plat A es[i].at_ := by unfold plat; rw [p1]
      rw [e1, p2]
      refine ⟨?_, ha _ h2, h3.keep (fun g cur hg hc => hkind g cur 5 hg hc (by decide) (by decide)) ha, h4.keep (fun g cur hg hc => hkind g cur 5 hg hc (by decide) (by decide)) (fun g hg => ?_) ha, h5⟩
      · rw [hk _ h2 n2 (fun e => ?_)]
        · exact h1
        · obtain ⟨_, _, ho, _, _⟩ := hvj
          obtain ⟨c2, h6⟩ := owns_kind ho e
          rw [h1] at h6; cases h6
      · have hag : al g := by obtain ⟨_, _, _, _, h6⟩ := h4; exact h6 g hg
        refine hk g hag (fun e => ?_) (n3 g hg)
        obtain ⟨_, _, ho, _, _⟩ := h4
        obtain ⟨c2, h6⟩ := owns_kind ho hg
        rw [e, hbj] at h6; cases h6
  · rw [List.pairwise_iff_getElem]
    intro i i' hi hi' hlt'
    simp only [List.length_set] at hi hi'
    rw [List.getElem_set, List.getElem_set]
    have old : ∀ i, (hi : i < es.length) → ∀ g, es[i].vv.ownBlock = some g → g < w.heap.size := fun i hi g hg => by
      obtain ⟨_, _, _, ⟨_, _, ho, _, _⟩, _⟩ := d.ent es[i] (List.getElem_mem hi)
      exact (owns_lt ho hg).1
    by_cases e1 : j = i
    · by_cases e2 : j = i'
      · omega
      · subst e1
        simp only [if_true, e2, if_false]
        obtain ⟨n1, n2, n3⟩ := pair_ne d.apart hi hi' (by omega)
        refine ⟨n1, n2, fun g hg h2 => ?_⟩
        rcases hvv g hg with h3 | h3
        · exact n3 g h3 h2
        · have := old i' hi' g h2; omega
    · by_cases e2 : j = i'
      · subst e2
        simp only [if_true, e1, if_false]
        obtain ⟨n1, n2, n3⟩ := pair_ne d.apart hi hi' (by omega)
        refine ⟨n1, n2, fun g hg h2 => ?_⟩
        rcases hvv g h2 with h3 | h3
        · exact n3 g hg h3
        · have := old i hi g hg; omega
      · simp only [e1, if_false, e2]
        exact pair_ne d.apart hi hi' (by omega)
  · intro k hno
    have hno' := hats k hno
    obtain ⟨p1, p2⟩ := hsame k (fun e => hno' es[j] (List.getElem_mem hj) e.symm)
    rw [p1, p2]
    exact d.none_ k hno'
  · intro k hk'
    rw [hN]
    by_cases e : k = es[j].at_
    · subst e; exact hvN hk'
    · rw [(hsame k e).2] at hk'
      exact d.vN k hk'

theorem heap_set3 {w : World} {ad : Nat} {x y z : Value} {t : TypeId} (h : w.heap[ad]? = some (.cells #[x, y, z] t (0, 0))) (u v : Value) : ((w.setCell ⟨ad, 1, none⟩ u).setCell ⟨ad, 2, none⟩ v).heap[ad]? = some (.cells #[x, u, v] t (0, 0)) := by
  have hl : ad < w.heap.size := (Array.getElem?_eq_some_iff.1 h).1
  have h' : w.heap[ad] = .cells #[x, y, z] t (0, 0) := (Array.getElem?_eq_some_iff.1 h).2
  simp [World.setCell, hl, Array.getElem_modify, h']

/-- Those of 'ats' are flushed. -/
def flushTo (A : Abs) (ats : List Int) : Abs := { A with P := fun k => if k ∈ ats then lastOf A k else A.P k, V := fun k => if k ∈ ats then [] else A.V k }
theorem flushTo_nil (A : Abs) : flushTo A [] = A := by cases A; simp [flushTo]
theorem flushTo_clean (A : Abs) (ats : List Int) (x : Int) (h : A.V x = []) : flushTo A (ats ++ [x]) = flushTo A ats := by
  simp only [flushTo, Abs.mk.injEq, true_and, List.mem_append, List.mem_singleton]
  constructor
  · funext k
    by_cases e : k = x
    · subst e; simp [lastOf, h]
    · simp [e]
  · funext k
    by_cases e : k = x
    · subst e; simp [h]
    · simp [e]
theorem flushTo_other (A : Abs) (ats : List Int) (x k : Int) (h : k ≠ x) : (flushTo A (ats ++ [x])).P k = (flushTo A ats).P k ∧ (flushTo A (ats ++ [x])).V k = (flushTo A ats).V k := by
  simp [flushTo, h]
theorem flushTo_at (A : Abs) (ats : List Int) (x : Int) : (flushTo A (ats ++ [x])).P x = lastOf A x ∧ (flushTo A (ats ++ [x])).V x = [] := by simp [flushTo]

set_option maxRecDepth 100000 in
set_option maxHeartbeats 1000000 in
theorem RFlush_any (w : World) (px : Nat) (A : Abs) (n : Nat) (al : Nat → Prop) (hd : RDisk w px A n al) (hn : n ≤ 1099511627776) :
    Calls Try.prog 23 #[.pointer (some ⟨px, 0, none⟩)] w fun e w' => e = .returned undef ∧ RStep w w' px { A with P := lastOf A, V := fun _ => [] } n al := by
  obtain ⟨vL, es, d, hel, hvl⟩ := hd
  obtain ⟨a, cap, rfl, _⟩ := ptr_cell d.row
  have HD := hid d
  have HVL := hid hvl
  clear d hvl
  go_enter Try.func23, Try.ntmps23
  go_wp2_with fail
  go_loopw [2] (fun i wr => ∃ (j : Nat) (fs : List REnt), j ≤ es.length ∧ i = .int .i64 j ∧ fs.map REnt.at_ = es.map REnt.at_ ∧ RDiskAt wr px (.slice a es.length cap) fs (flushTo A ((es.map REnt.at_).take j)) al ∧ Mods al w wr) (fun i _ => es.length - (RowKit.intOf i).toNat)
  case atStart => exact ⟨0, es, Nat.zero_le _, rfl, rfl, by rw [List.take_zero, flushTo_nil]; exact HD.out, Mods.refl _ _⟩
  case round =>
    obtain ⟨j, fs, hj, rfl, hats, d, hmo⟩ := hrel
    have hfl : fs.length = es.length := by have := congrArg List.length hats; simpa using this
    have hcL : wr.cell? ⟨px, 1, none⟩ = some (.slice a es.length cap) := by simp [World.cell?, d.box]
    have HDj := hid d
    have HMo := hid hmo
    have HAts := hid hats
    have hmo' := hmo
    clear hmo
    by_cases hlt : j < es.length
    · have hji : (j : Int) < (es.length : Int) := by omega
      have hjf : j < fs.length := by omega
      obtain ⟨a2, cap2, hv2, hcell⟩ := ptr_cell d.row
      obtain ⟨b, off, ha, hcp⟩ := hcell j hjf
      simp only [Value.slice.injEq] at hv2
      obtain ⟨rfl, hx1, hx2⟩ := hv2
      clear hx1 hx2
      subst ha
      have hatj : fs[j].at_ = es[j].at_ := by
        have := congrArg (fun l => l[j]?) hats
        simpa [hjf, hlt] using this
      have htk : (es.map REnt.at_).take (j + 1) = (es.map REnt.at_).take j ++ [fs[j].at_] := by
        rw [List.take_add_one, List.getElem?_eq_getElem (by simpa using hlt), hatj]; simp
      have hnot : fs[j].at_ ∉ (es.map REnt.at_).take j := by
        intro hm
        rw [← hats] at hm
        obtain ⟨i, hi, he⟩ := List.getElem_of_mem hm
        simp only [List.length_take, List.length_map] at hi
        rw [List.getElem_take, List.getElem_map] at he
        exact (pair_ne d.apart (i := i) (j := j) (by omega) hjf (by omega)).1 he
      have hVc : (flushTo A ((es.map REnt.at_).take j)).V fs[j].at_ = A.V fs[j].at_ := by simp [flushTo, hnot]
      obtain ⟨hbx, hadl, hrw, hr2, _⟩ := d.ent fs[j] (List.getElem_mem hjf)
      rw [hVc] at hr2
      obtain ⟨av, cv, hvv, hml⟩ := hr2.shape
      have hc2 : wr.cell? ⟨fs[j].ad, 2, none⟩ = some (.slice av (A.V fs[j].at_).length cv) := by simp [World.cell?, hbx, hvv]
      have hc1 : wr.cell? ⟨fs[j].ad, 1, none⟩ = some fs[j].sv := by simp [World.cell?, hbx]
      have hf1 : wr.frozen? ⟨fs[j].ad, 1, none⟩ = false := by simp [World.frozen?, hbx]
      have HBx := hid hbx
      have HTk := hid htk
      by_cases hV : A.V fs[j].at_ = []
      · have HCl := hid (flushTo_clean A ((es.map REnt.at_).take j) fs[j].at_ hV)
        rw [hV] at hc2
        simp only [List.length_nil] at hc2
        generalize fs[j].ad = ad at hcp hc2
        clear hV hr2 hrw hbx hvv hVc htk hnot hatj d hats hc1 hf1 hcell HBx
        go_wp2
        go_roundw
        case rel => exact ⟨j + 1, fs, by omega, by go_num, HAts.out, by rw [HTk.out, HCl.out]; exact HDj.out, HMo.out⟩
        case measure => simp [RowKit.intOf]; omega
      · obtain ⟨g, cap', hvs, hcap, hcap2, hg, hrowc⟩ := hr2.open_ hV
        rw [hvs] at hvv
        simp only [Value.slice.injEq] at hvv
        obtain ⟨rfl, _, rfl⟩ := hvv
        obtain ⟨m, hm1⟩ : ∃ m, (A.V fs[j].at_).length = m + 1 := ⟨(A.V fs[j].at_).length - 1, by have := List.length_pos_iff.2 hV; omega⟩
        obtain ⟨u, hu, hrow⟩ := hrowc m (by omega)
        obtain ⟨gu, cu, hue, hg1, hg2⟩ := hrow.open_
        clear hg1 hg2
        have el : lastOf A fs[j].at_ = some ((A.V fs[j].at_)[m]'(by omega)) := by
          simp only [lastOf, hV, if_false]
          rw [List.getLast?_eq_getElem?]
          simp [hm1]
        rw [hm1] at hc2
        have hmb : (m : Int) < 9223372036854775807 := by unfold maxLen at hcap2; omega
        have ew2 : IntKind.i64.wrap ((m : Int) + 1 - 1) = (m : Int) := by rw [IntWalk.i64_in _ (by omega)]; omega
        have ew3 : IntKind.i64.wrap (m : Int) = (m : Int) := IntWalk.i64_in _ (by omega)
        have hm00 : (0 : Int) ≤ (m : Int) := by omega
        have hm01 : (m : Int) < (m : Int) + 1 := by omega
        have hgne : g ≠ fs[j].ad := fun e => by
          obtain ⟨_, _, ho, _, _⟩ := hr2
          rw [hvs] at ho
          obtain ⟨c3, h6⟩ := owns_kind ho (show (Value.slice (some ⟨g, 0, none⟩) (A.V fs[j].at_).length cap').ownBlock = some g from rfl)
          rw [e, hbx] at h6; cases h6
        have HFi : Hid (∀ wE : World, wE.os = wr.os → wE.tape = wr.tape → wE.output = wr.output → wE.heap.size = wr.heap.size → (∀ b, b ≠ fs[j].ad → wE.heap[b]? = wr.heap[b]?) → wE.heap[fs[j].ad]? = some (.cells #[.int .i64 fs[j].at_, u, .slice none 0 0] 73 (0, 0)) →
            ∃ fs' : List REnt, fs'.map REnt.at_ = es.map REnt.at_ ∧ RDiskAt wE px (.slice (some ⟨b, off, none⟩) es.length cap) fs' (flushTo A ((es.map REnt.at_).take (j + 1))) al ∧ Mods al w wE) := hid fun wE h1 h2 h3 h4 h5 h6 => by
          have hk5 : ∀ b', al b' → b' ≠ fs[j].ad → fs[j].vv.ownBlock ≠ some b' → wE.heap[b']? = wr.heap[b']? := fun b' _ hne _ => h5 b' hne
          obtain ⟨q1, q2⟩ := flushTo_at A ((es.map REnt.at_).take j) fs[j].at_
          refine ⟨fs.set j ⟨fs[j].at_, fs[j].ad, u, .slice none 0 0⟩, ?_, ?_, ?_⟩
          · rw [← hats]
            apply List.ext_getElem
            · simp
            · intro i p1 p2
              simp only [List.getElem_map, List.getElem_set]
              split
              · rename_i e; subst e; rfl
              · rfl
          · rw [htk]
            refine d.upd (A' := flushTo A ((es.map REnt.at_).take j ++ [fs[j].at_])) (al' := al) j hjf u (.slice none 0 0) rfl (fun k hk => flushTo_other A _ _ _ hk) (fun _ h => h) (fun b' hb' => by rw [h4]; exact d.lt b' hb') hk5 h6 ?_ ?_ (fun g hg => by simp [Value.ownBlock] at hg) (fun h => absurd q2 h)
            · unfold plat
              rw [q1, el, Option.getD_some]
              exact hrow.keep (fun g' cur _ hc => h5 g' (fun e => by rw [e, hbx] at hc; cases hc)) (fun _ h => h)
            · rw [q2]
              exact ⟨[], rfl, World.ownsRow_nil _ _ _ _, fun i hi => by simp at hi, fun g hg => by simp [Value.ownBlock] at hg⟩
          · refine ⟨h1.trans hmo'.os, h2.trans hmo'.tape, h3.trans hmo'.output, by rw [h4]; exact hmo'.size, fun b' hb' hn' => ?_⟩
            rw [h5 b' (fun e => hn' (by rw [e]; exact hadl))]
            exact hmo'.block b' hb' hn'
        have hf2 : wr.frozen? ⟨fs[j].ad, 2, none⟩ = false := by simp [World.frozen?, hbx]
        have hu' : (wr.drew.setCell ⟨fs[j].ad, 1, none⟩ u).cell? ⟨g, m, none⟩ = some u := (World.cell?_of_block (w := wr) (Below.heap_setCell wr.drew ⟨fs[j].ad, 1, none⟩ u g hgne)).trans hu
        have hc2' : (wr.drew.setCell ⟨fs[j].ad, 1, none⟩ u).cell? ⟨fs[j].ad, 2, none⟩ = some (.slice (some ⟨g, 0, none⟩) (m + 1) cap') := by
          have hl : fs[j].ad < wr.heap.size := (Array.getElem?_eq_some_iff.1 hbx).1
          have h' : wr.heap[fs[j].ad] = .cells #[.int .i64 fs[j].at_, fs[j].sv, fs[j].vv] 73 (0, 0) := (Array.getElem?_eq_some_iff.1 hbx).2
          have h7 : (wr.setCell ⟨fs[j].ad, 1, none⟩ u).cell? ⟨fs[j].ad, 2, none⟩ = some (.slice (some ⟨g, 0, none⟩) (m + 1) cap') := by
            simp [World.cell?, World.setCell, hl, Array.getElem_modify, h', hvs, hm1]
          exact h7
        have hset := heap_set3 hbx u (.slice none 0 0)
        obtain ⟨at_, hat_⟩ : ∃ at_, at_ = fs[j].at_ := ⟨_, rfl⟩
        rw [← hat_] at HFi hset
        generalize fs[j].ad = ad at hcp hc2 hc1 hf1 hf2 hu' hc2' HFi hset hgne
        generalize fs[j].sv = sv at hc1
        have HSet := hid hset
        have HNe := hid hgne
        have HC2 := hid hc2'
        have HU2 := hid hu'
        clear hc2' hu'
        clear hV hr2 hrw hbx hvs hVc htk hnot hatj d hats hcell HBx hrow hrowc el hset hgne hmo' hat_ hm1
        subst hue
        go_wp2_with fail
        go_region_held3 (fun w' => w'.cell? ⟨ad, 2, none⟩ = some (.slice (some ⟨g, 0, none⟩) (m + 1) cap') ∧ w'.cell? ⟨g, m, none⟩ = some (.slice (some ⟨gu, 0, none⟩) 512 cu)) ((first | exact ⟨hc2, hu⟩ | exact ⟨HC2.out, HU2.out⟩)) (fail)

        go_wp2
        go_roundw
        case rel =>
          obtain ⟨fs', q1, q2, q3⟩ := HFi.out ((wr.setCell ⟨ad, 1, none⟩ (.slice (some ⟨gu, 0, none⟩) 512 cu)).setCell ⟨ad, 2, none⟩ (.slice none 0 0)).drew rfl rfl rfl (by simp [World.setCell]) (fun b' hb' => (Below.heap_setCell _ _ _ _ hb').trans (Below.heap_setCell _ _ _ _ hb')) HSet.out
          exact ⟨j + 1, fs', by omega, by go_num, q1, q2, q3⟩
        case measure => simp [RowKit.intOf]; omega
    · have hji : ¬ ((j : Int) < (es.length : Int)) := by omega
      obtain rfl : j = es.length := by omega
      clear d hats
      go_wp2
      go_end0
      refine ⟨rfl, al, ⟨.slice a es.length cap, fs, ?_, by omega, fun _ => Nat.zero_le _⟩, fun b hb => .inl hb, HMo.out⟩
      have e1 : flushTo A ((es.map REnt.at_).take es.length) = { A with P := lastOf A, V := fun _ => [] } := by
        rw [List.take_of_length_le (by simp)]
        have hno : ∀ k, k ∉ es.map REnt.at_ → A.P k = lastOf A k ∧ A.V k = [] := fun k hk => by
          obtain ⟨p1, p2⟩ := HD.out.none_ k (fun e he h => hk (List.mem_map.2 ⟨e, he, h⟩))
          exact ⟨by simp [lastOf, p2], p2⟩
        simp only [flushTo, Abs.mk.injEq, true_and]
        constructor
        · funext k
          split
          · rfl
          · rename_i h; exact (hno k h).1
        · funext k
          split
          · rfl
          · rename_i h; exact (hno k h).2
      rw [← e1]
      exact HDj.out
end Go.Proofs.Ytdbpjdaaggenpaa
