/- Both disks' Platter; bytes of the law's own as a string. -/
import Derived.Test.YtdbpjdaaggenpaaRefF
namespace Go.Proofs.Ytdbpjdaaggenpaa
open Go.RowKit

theorem owns_base0 {w : World} {base s n : Nat} {e : TypeId} {v : Value} {xs : List Value} (h : w.ownsRow base e s v n xs) : w.ownsRow 0 e s v n xs :=
  ⟨h.1, h.2.imp id (fun ⟨g, cap, cur, h1, _, h2⟩ => ⟨g, cap, cur, h1, Nat.zero_le _, h2⟩)⟩

/-- A slice of bytes of the law's own (nil, where there are none). -/
def Mine (w : World) (v : Value) (l : List Int) : Prop := w.ownsRow 0 5 1 v l.length (l.map fun x => Value.int .u8 x)
theorem Mine.nil_ (w : World) : Mine w (.slice none 0 0) [] := World.ownsRow_nil _ _ _ _
theorem Mine.keep {w w' : World} {v : Value} {l : List Int} (h : Mine w v l) (hb : Below w.heap.size w w') : Mine w' v l := owns_keep h (fun g hg => hb.block g (owns_lt h hg).1)
theorem Mine.conv {w : World} {v : Value} {l : List Int} (h : Mine w v l) : (convert 42 9 v).run Try.prog w = .ok (.string (strOfNums l)) w := by
  rcases h.2 with ⟨rfl, h0⟩ | ⟨g, cap, cur, rfl, _, hh, hc1, _, hcs, ht⟩
  · obtain rfl : l = [] := List.eq_nil_of_length_eq_zero h0
    exact run_convert_bytes_nil w 42 5 Try.underlying42 Try.underlying5 0 0 9 Try.underlying9
  · refine run_convert_bytes_arg w 42 5 Try.underlying42 Try.underlying5 g 0 l.length cap l rfl (fun i hi => ?_) 9 Try.underlying9
    have : cur[i]? = some (.int .u8 (l.getD i 0)) := by
      have e : (cur.toList.take (l.length * 1))[i]? = (l.map fun x => Value.int .u8 x)[i]? := by rw [ht]
      rw [List.getElem?_take] at e
      simp [hi] at e
      simp [e, List.getD, hi]
    rw [Nat.zero_add]
    simp [World.cell?, hh, this]

/-- 'copy' into a row of the call's own, from its head on. -/
theorem wpList_copy_head {P : Program} {w : World} {ops : Array Oper} {rest : List Oper} {o : Oper} {a : Act} {Q : Exit → Act → World → Prop} (hgd : o.guard = none) (d s : Operand) (dT sT : TypeId)
    (ho : o.op = .call { callee := .builtin .copy, args := #[d, s], argTypes := #[dT, sT] }) (elem : TypeId) (hu : P.underlying dT = some (.slice elem)) (hsz : (P.info? elem).map (·.size) = some 1)
    (dp sp : Option Addr) (dLen dCap sLen sCap : Nat) (hd : a.eval d = .slice dp dLen dCap) (hs : a.eval s = .slice sp sLen sCap)
    (g : Nat) (cur : List Value) (t : TypeId) (hg : w.heap[g]? = some (.cells cur.toArray t (0, 0))) (cs : List Value) (hn : cs.length = Nat.min sLen dLen)
    (hpos : 0 < cs.length → dp = some ⟨g, 0, none⟩ ∧ ∃ ad, sp = some ad ∧ ∀ j v, cs[j]? = some v → w.cell? (ad.add j) = some v)
    (hfit : cs.length ≤ cur.length) (h1 : ∀ v ∈ cs, v.oneCell' = true) (B : Nat) (w0 : World) (hb : Below B w0 w) (hBg : B ≤ g)
    (h : ∀ w', Hid (w'.heap[g]? = some (.cells (cs ++ cur.drop cs.length).toArray t (0, 0))) → Below B w0 w' → wpList P ops Q rest (a.put o.dst (goInt cs.length)) w') :
    wpList P ops Q (o :: rest) a w :=
  wpList_copy_splice hgd d s dT sT ho elem hu hsz dp sp dLen dCap sLen sCap hd hs g 0 cur t hg cs hn hpos (by omega) h1 B w0 hb hBg (fun w' hh hb' => h w' (hid (by have := hh.out; simpa [splice] using this)) hb')

theorem mine_row {w : World} {g : Nat} {l : List Int} (hl : l.length = 512) (h : w.heap[g]? = some (.cells (l.map fun x => Value.int .u8 x).toArray 5 (0, 0))) : Mine w (.slice (some ⟨g, 0, none⟩) 512 512) l := by
  refine ⟨by simp, .inr ⟨g, 512, _, by rw [hl], Nat.zero_le _, h, by omega, by unfold maxLen; omega, by simp [hl], ?_⟩⟩
  simp [hl]
  exact List.take_of_length_le (by simp [hl])

theorem zeros_len : zeros.length = 512 := List.length_replicate
theorem made_heap (w : World) : (w.alloc (.cells (madeCells #[.int .u8 0] 512) 5)).heap[w.heap.size]? = some (.cells (zeros.map fun x => Value.int .u8 x).toArray 5 (0, 0)) := by
  have e : madeCells #[Value.int .u8 0] 512 = (zeros.map fun x => Value.int .u8 x).toArray := by
    apply Array.ext'
    rw [toList_madeCells_one, zeros, List.map_replicate]
  rw [(MapKept.heap_alloc w _).1, e]

set_option maxRecDepth 100000 in
set_option maxHeartbeats 1000000 in
theorem Platter_any (w : World) (pd : Nat) (A : Abs) (n : Nat) (al : Nat → Prop) (hd : Disk w pd A n al) (k : Int) (hk : IsI k) (hh : hasB A.N k 1 = true) :
    Calls Try.prog 29 #[.pointer (some ⟨pd, 0, none⟩), .int .i64 k] w fun e w' => e = .returned (.tuple #[.slice (some ⟨w.heap.size, 0, none⟩) 512 512, .int .i64 0]) ∧ Below w.heap.size w w' ∧ Mine w' (.slice (some ⟨w.heap.size, 0, none⟩) 512 512) (plat A k) := by
  obtain ⟨bp, bv, MP, MV, d⟩ := hd
  obtain ⟨hc0, hc1, hc2, _⟩ := d.cells
  have hN := d.hN
  have hmk := run_make_row' (P := Try.prog) 42 5 (.int .u8 0) 1 Try.underlying42 info5 rfl .i64 .i64 512 (by omega) (by omega)
  rw [show ((512 : Nat) : Int) = 512 by omega] at hmk
  have hbA : Below w.heap.size w (w.alloc (.cells (madeCells #[.int .u8 0] 512) 5)) := (Below.refl _ w).alloc (Nat.le_refl _) _
  have d' := d.keep hbA.size (fun b hb => hbA.block b (d.lt b hb))
  have hl2 := d'.mp.look Try.underlying57 (zero42 _) hk
  obtain ⟨_, hc1', _, _⟩ := d'.cells
  have HNew := hid (made_heap w)
  have HBA := hid hbA
  rcases d'.rp k hk with ⟨h1, h2⟩ | ⟨u, l, h1, h2, h3⟩
  · rw [h1] at hl2
    simp only [Option.getD_none] at hl2
    have HP : Hid (plat A k = zeros) := hid (by simp [plat, h2])
    clear h1 h2 d d' hc2 hbA hc1
    go_enter Try.func29, Try.ntmps29
    go_wp2_with (first
      | (go_at_call 32; refine (hasAll_any _ _ _ _ _ hc0 hN (by omega)).mono ?_; rw [hh]; rintro e w2 ⟨rfl, hw⟩; rw [hw]; clear hw w2)
      | (show wpList _ _ _ ({ dst := _, op := .call { callee := .builtin .copy, args := #[.tmp 12, .tmp 18], argTypes := #[42, 42] }, type := _, pos := _, after := _, guard := none } :: _) _ _; refine wpList_copy_head rfl (.tmp 12) (.tmp 18) 42 42 rfl 5 Try.underlying42 size5 _ _ _ _ _ _ rfl rfl w.heap.size _ 5 HNew.out [] (by simp) (fun hp => by simp at hp) (by simp) (by simp) w.heap.size w HBA.out (Nat.le_refl _) ?_; intro w1 hr1 hb1))
    go_ret2
    refine ⟨rfl, hb1, ?_⟩
    rw [HP.out]
    exact mine_row zeros_len (by have := hr1.out; rw [List.nil_append] at this; exact this)
  · rw [h1] at hl2
    simp only [Option.getD_some] at hl2
    have HP : Hid (plat A k = l) := hid (by simp [plat, h2])
    obtain ⟨gu, cu, rfl, _, hcell⟩ := h3.open_
    have hl5 := h3.2.1
    have HCell := hid hcell
    clear h1 h2 d d' hc2 hbA hc1 h3 hcell
    go_enter Try.func29, Try.ntmps29
    go_wp2_with (first
      | (go_at_call 32; refine (hasAll_any _ _ _ _ _ hc0 hN (by omega)).mono ?_; rw [hh]; rintro e w2 ⟨rfl, hw⟩; rw [hw]; clear hw w2)
      | (show wpList _ _ _ ({ dst := _, op := .call { callee := .builtin .copy, args := #[.tmp 12, .tmp 18], argTypes := #[42, 42] }, type := _, pos := _, after := _, guard := none } :: _) _ _; refine wpList_copy_head rfl (.tmp 12) (.tmp 18) 42 42 rfl 5 Try.underlying42 size5 _ _ _ _ _ _ rfl rfl w.heap.size _ 5 HNew.out (l.map fun x => Value.int .u8 x) (by rw [List.length_map, hl5]; rfl) (fun hp => ⟨rfl, _, rfl, fun j v hj => by rw [add_addr]; exact src_cell hl5 HCell.out hj⟩) (by rw [List.length_map, List.length_map, hl5, zeros_len]; exact Nat.le_refl _) (fun v hv => by rw [List.mem_map] at hv; obtain ⟨y, _, rfl⟩ := hv; rfl) w.heap.size w HBA.out (Nat.le_refl _) ?_; intro w1 hr1 hb1))
    go_ret2
    refine ⟨rfl, hb1, ?_⟩
    rw [HP.out]
    exact mine_row hl5 (by have := hr1.out; rw [List.drop_of_length_le (by rw [List.length_map, List.length_map, hl5, zeros_len]; exact Nat.le_refl _), List.append_nil] at this; exact this)

set_option maxRecDepth 100000 in
set_option maxHeartbeats 1000000 in
theorem RPlatter_any (w : World) (px : Nat) (A : Abs) (n : Nat) (al : Nat → Prop) (hd : RDisk w px A n al) (hn : n ≤ 1099511627776) (k : Int) (hh : hasB A.N k 1 = true) :
    Calls Try.prog 30 #[.pointer (some ⟨px, 0, none⟩), .int .i64 k] w fun e w' => ∃ v, e = .returned (.tuple #[v, .int .i64 0]) ∧ Below w.heap.size w w' ∧ Mine w' v (plat A k) := by
  obtain ⟨vL, es, d, hel, hvl⟩ := hd
  obtain ⟨i0, hi, hz0, hz1, hz2⟩ := info5b
  have hc0 : w.cell? ⟨px, 0, none⟩ = some (.int .i64 A.N) := by simp [World.cell?, d.box]
  have hr : 0 ≤ k ∧ k < A.N := by unfold hasB at hh; simp at hh; omega
  have h1 : ¬ (k < 0) := by omega
  have h2 : ¬ (A.N ≤ k) := by omega
  have hmk := run_make_row' (P := Try.prog) 42 5 (.int .u8 0) 1 Try.underlying42 info5 rfl .i64 .i64 512 (by omega) (by omega)
  rw [show ((512 : Nat) : Int) = 512 by omega] at hmk
  have hat := hid (At_any w px vL es A al d (by omega) k)
  cases hf : findAt es k with
  | none =>
    have HP : Hid (plat A k = zeros) := hid (by simp [plat, (d.none_ _ (findAt_none hf)).1])
    rw [hf] at hat
    clear hf d hvl
    go_enter Try.func30, Try.ntmps30
    go_wp2_with (go_at_call 31; refine hat.out.mono ?_; rintro e w2 ⟨rfl, hw⟩; rw [hw]; clear hw w2; simp only [ptrOf])
    go_ret2
    refine ⟨_, rfl, (Below.refl _ w).alloc (Nat.le_refl _) _, ?_⟩
    rw [HP.out]
    exact mine_row zeros_len (made_heap w)
  | some en =>
    obtain ⟨hmem, hek⟩ := findAt_some hf
    obtain ⟨hbx, _, hrw, _, _⟩ := d.ent en hmem
    rw [hek] at hrw
    rw [hf] at hat
    obtain ⟨gu, cu, hsv, _, hcell⟩ := hrw.open_
    have hc1 : w.cell? ⟨en.ad, 1, none⟩ = some (.slice (some ⟨gu, 0, none⟩) 512 cu) := by simp [World.cell?, hbx, hsv]
    have hl5 := hrw.2.1
    have hbA : Below w.heap.size w (w.alloc (.cells #[] 5)) := (Below.refl _ w).alloc (Nat.le_refl _) _
    have hc1' := cell_later hbA hc1
    have HSrc : Hid (∀ j u, ((plat A k).map fun x => Value.int .u8 x)[j]? = some u → (w.alloc (.cells #[] 5)).cell? ((⟨gu, 0, none⟩ : Addr).add j) = some u) := hid fun j u hj => by
      rw [add_addr]
      exact cell_later hbA (src_cell hl5 hcell hj)
    have HO := hid (own_empty w)
    have HBA := hid hbA
    clear hf d hvl hbx hrw hsv hcell hbA
    go_enter Try.func30, Try.ntmps30
    go_wp2_with (first
      | (go_at_call 31; refine hat.out.mono ?_; rintro e w2 ⟨rfl, hw⟩; rw [hw]; clear hw w2; simp only [ptrOf])
      | (at_builtin; refine wpList_append_own_at _ rfl _ _ 42 rfl w.heap.size 5 i0 (.int .u8 0) 1 1 Try.underlying42 hi hz0 hz1 hz2 rfl (by decide) _ _ _ rfl HO.out ⟨gu, 0, none⟩ 512 cu ((plat A k).map fun x => Value.int .u8 x) rfl (by simp [hl5]) HSrc.out (by intro u hu; simp at hu; obtain ⟨y, _, rfl⟩ := hu; rfl) (by unfold maxLen; omega) (by omega) (by simp) ?_; intro v' w1 hown' hgrow hnil' hat'))
    go_ret2
    refine ⟨_, rfl, HBA.out.grown hgrow (by simp) (fun g e => (owns_lt HO.out e).2), ?_⟩
    have := owns_base0 hown'
    rw [List.nil_append, Nat.zero_add] at this
    unfold Mine
    rw [hl5]
    exact this

set_option maxHeartbeats 400000 in
theorem RPlatter_err (w : World) (px : Nat) (A : Abs) (n : Nat) (al : Nat → Prop) (hd : RDisk w px A n al) (k : Int) (hh : hasB A.N k 1 = false) :
    Calls Try.prog 30 #[.pointer (some ⟨px, 0, none⟩), .int .i64 k] w fun e w' => e = .returned (.tuple #[.slice none 0 0, .int .i64 1]) ∧ w' = w := by
  obtain ⟨vL, es, d, hel, hvl⟩ := hd
  have hc0 : w.cell? ⟨px, 0, none⟩ = some (.int .i64 A.N) := by simp [World.cell?, d.box]
  clear d
  by_cases h1 : k < 0
  · go_enter Try.func30, Try.ntmps30
    go_wp2
    go_ret2
    exact ⟨rfl, rfl⟩
  · have h2 : A.N ≤ k := by unfold hasB at hh; simp at hh; omega
    go_enter Try.func30, Try.ntmps30
    go_wp2
    go_ret2
    exact ⟨rfl, rfl⟩
end Go.Proofs.Ytdbpjdaaggenpaa
