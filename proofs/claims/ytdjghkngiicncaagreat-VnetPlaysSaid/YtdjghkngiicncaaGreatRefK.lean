/- The document's driver: Add, where a chain is taken. -/
import Derived.Test.YtdjghkngiicncaaGreatSteps
namespace Go.Proofs.YtdjghkngiicncaaGreat
open Go.RowKit

def encN (k : Nat) : Value := .int .i64 (k : Int)
theorem encN_map (l : List Nat) : (l.map fun (k : Nat) => (k : Int)).map encZ = l.map encN := by
  rw [List.map_map]
  rfl
theorem wpList_append_n {ops : Array Oper} {rest : List Oper} {o : Oper} {a : Act} {Q : Exit → Act → World → Prop} (hgd : o.guard = none) (s x : Operand)
    (ho : o.op = .call { callee := .builtin .append, args := #[s, x], argTypes := #[94, 94] }) (base : Nat) (w4 : World) (k : Nat)
    (v : Value) (L : List Nat) (hs : a.eval s = v) (hown : (w4.alloc (.cells #[.int .i64 (k : Int)] 3)).ownsRow base 3 1 v L.length (L.map encN)) (c : Nat) (hx : a.eval x = .slice (some ⟨w4.heap.size, 0, none⟩) 1 c)
    (hL : L.length ≤ 65536) (hb : base ≤ w4.heap.size)
    (h : ∀ (v' : Value) (w' : World), Hid (w'.ownsRow base 3 1 v' (L ++ [k]).length ((L ++ [k]).map encN)) → Hid ((w4.alloc (.cells #[.int .i64 (k : Int)] 3)).grownBy w' v.ownBlock) → wpList Tryz.prog ops Q rest (a.put o.dst v') w') :
    wpList Tryz.prog ops Q (o :: rest) a (w4.alloc (.cells #[.int .i64 (k : Int)] 3)) := by
  refine wpList_append_z hgd s x ho base w4 (k : Int) v (L.map fun (k : Nat) => (k : Int)) hs ?_ c hx (by simpa using hL) hb ?_
  · rw [encN_map, List.length_map]
    exact hown
  · intro v' w' h1 h2
    refine h v' w' (hid ?_) h2
    have h3 := h1.out
    rw [show (L.map fun (k : Nat) => (k : Int)) ++ [(k : Int)] = (L ++ [k]).map fun (k : Nat) => (k : Int) by simp, encN_map, List.length_map] at h3
    exact h3

theorem append_ch_run (w : World) (base : Nat) (v : Value) (L : List (Nat × Value)) (hown : w.ownsRow base 127 2 v L.length (cellsF L)) (cb c : Nat) (q : Nat × Value) (h1 : w.cell? ⟨cb, 0, none⟩ = some (.int .i64 (q.1 : Int))) (h2 : w.cell? ⟨cb, 1, none⟩ = some q.2) (h3 : q.2.oneCell' = true)
    (hl : L.length ≤ 65535) (hb : base ≤ w.heap.size) (ty : TypeId) : ∃ v' w', (Builtin.append_ #[109, 109] ty #[v, .slice (some ⟨cb, 0, none⟩) 1 c]).run Tryz.prog w = .ok v' w' ∧ w'.ownsRow base 127 2 v' (L ++ [q]).length (cellsF (L ++ [q])) ∧ w.grownBy w' v.ownBlock ∧ (v'.ownBlock = v.ownBlock ∨ v'.ownBlock = some w.heap.size) := by
  obtain ⟨i0, hi, hz0, hz1, hz2⟩ := info90
  obtain ⟨v', w', hr, k1, k2, _, k4⟩ := run_append_own_at (P := Tryz.prog) (w := w) base 109 ty 127 i0 _ 2 32 Tryz.underlying109 hi hz0 hz1 hz2 rfl (by decide) v L.length (cellsF L) hown ⟨cb, 0, none⟩ 1 c [.int .i64 (q.1 : Int), q.2] rfl (fun j u hj => by
    have hj2 : j < 2 := (List.getElem?_eq_some_iff.1 hj).1
    rw [add_addr, Nat.zero_add]
    rcases (show j = 0 ∨ j = 1 by omega) with rfl | rfl
    · rw [h1]; simpa using hj
    · rw [h2]; simpa using hj) (by intro u hu; simp at hu; rcases hu with rfl | rfl; rfl; exact h3) (by unfold maxLen; omega) (by omega) hb
  refine ⟨v', w', hr, ?_, k2, k4⟩
  rw [List.length_append, cellsF_append]
  exact k1
theorem fr_full {t : Nat → Bool} {i n m fn : Nat} (h1 : m ≤ fn) (h2 : (fr t n).length = fn) (h3 : i ≤ n) (h4 : ¬ i < n) (h5 : (fr t i).length ≤ m) : (fr t i).length = m := by
  have e : i = n := by omega
  rw [e] at h5 ⊢
  omega
theorem box90 {w : World} {B : Nat} {x v : Value} (h : w.heap[B]? = some (.cells #[x, v] 127 (0, 0))) : w.cell? ⟨B, 0, none⟩ = some x ∧ w.cell? ⟨B, 1, none⟩ = some v ∧ w.frozen? ⟨B, 0, none⟩ = false ∧ w.frozen? ⟨B, 1, none⟩ = false := by
  unfold World.cell? World.frozen?
  simp [h]
theorem owns_cells {w : World} {base : Nat} {v : Value} {l : List Nat} (h : w.ownsRow base 3 1 v l.length (l.map encN)) (hp : 0 < l.length) : ∃ vb vc, v = .slice (some ⟨vb, 0, none⟩) l.length vc ∧ base ≤ vb ∧ vb < w.heap.size ∧ ∀ i, i < l.length → w.cell? ⟨vb, i, none⟩ = some (.int .i64 (l.getD i 0 : Nat)) := by
  obtain ⟨cb, cc, h1, h2, h3, h4⟩ := owns_open (l := l) h hp rfl
  exact ⟨cb, cc, h1, h2, h3, h4⟩

set_option maxRecDepth 100000 in
set_option maxHeartbeats 8000000 in
theorem refAdd_ok (w : World) (p gt fl fc : Nat) (fa : Option Addr) (g len cap base n N put got : Nat) (f : Nat → Int) (t : Nat → Bool) (F : List (Nat × Value)) (ab : Option Addr) (m capb : Nat) (bufs : List Bf)
    (hd : RBox w p gt (.slice fa fl fc) g len cap base n put got) (hput : put < 65536) (hm : Mem w g N f) (G : RGeo len base n N) (htk : Tk w gt n t) (hF : FRow w (.slice fa fl fc) F) (hone : ∀ q ∈ F, q.2.oneCell' = true) (f2 : fl ≤ 256)
    (hb : bufs.length = m) (hB : Bufs w ab bufs g) (haB : ∀ b off, ab = some ⟨b, off, none⟩ → b < w.heap.size ∧ b ≠ p ∧ b ≠ gt) (hok : ∀ b ∈ bufs, okB b) (h0 : 0 < m) (hfm : m ≤ (fr t n).length) (nums : List Nat) (hnums : (fr t n).take m = nums) :
    Calls Tryz.prog 39 #[.pointer (some ⟨p, 0, none⟩), .slice ab m capb] w fun e w' => e = .returned (.tuple #[.int .i64 (nums.getD 0 0 : Nat), .int .i64 0]) ∧ Mods (fun b => b = p ∨ b = gt ∨ b = g ∨ (Value.slice fa fl fc).ownBlock = some b) w w' ∧
      Mem w' g N (wr (wr (layTo f base nums bufs m) (base + 16 * n + (4 + put % n * 2)) 2 (nums.getD 0 0 : Nat)) (base + 16 * n + 2) 2 ((put + 1) % 65536 : Nat)) ∧
      ∃ vf v, RBox w' p gt vf g len cap base n ((put + 1) % 65536) got ∧ Tk w' gt n (fun i => t i || nums.contains i) ∧ FRow w' vf (F ++ [(nums.getD 0 0, v)]) ∧ IRow w' v nums ∧
        (∀ b, v.ownBlock = some b → w.heap.size ≤ b) ∧ ∀ b, vf.ownBlock = some b → (Value.slice fa fl fc).ownBlock = some b ∨ w.heap.size ≤ b := by
  obtain ⟨n1, n2, fit, hle, hbig⟩ := G
  have hkp : w.heap[p]? = _ := hd
  obtain ⟨ct, hkt, jk1, jk2⟩ := id htk
  clear jk1 jk2
  have hgtp : gt ≠ p := fun e => by rw [e, hkp] at hkt; cases hkt
  obtain ⟨⟨cg, hkg, jk1, jk2⟩, jk3⟩ := id hm
  clear jk1 jk2 jk3
  have hgp : g ≠ p := fun e => by rw [e, hkp] at hkg; cases hkg
  have hggt : g ≠ gt := fun e => by rw [e, hkt] at hkg; cases hkg
  have hvfb : ∀ b, (Value.slice fa fl fc).ownBlock = some b → b < w.heap.size ∧ b ≠ p ∧ b ≠ gt ∧ b ≠ g := fun b hb => by
    obtain ⟨cur, hk⟩ := owns_kind hF hb
    refine ⟨(owns_lt hF hb).1, fun e => ?_, fun e => ?_, fun e => ?_⟩
    · rw [e, hkp] at hk; cases hk
    · rw [e, hkt] at hk; cases hk
    · rw [e, hkg] at hk; cases hk
  have HVFB := hid hvfb
  have hfl : F.length = fl := by
    obtain ⟨xa, xc, hx⟩ := owns_slice hF
    simp only [Value.slice.injEq] at hx
    omega
  have HFL := hid hfl
  have hpl : p < w.heap.size := hd.lt
  have hgtl : gt < w.heap.size := htk.lt
  have hgl : g < w.heap.size := hm.lt
  have HBu := hid hB
  have Hb := hid hb
  have HaB := hid haB
  have HOK := hid hok
  have hfree := refFree_any w p gt _ g len cap base n put got t hd htk n2
  rw [← fr_cnt] at hfree
  have HFR := hid hfree
  have HFN := fr_len t n
  have hm256 : m ≤ 256 := by omega
  have g0 : ((m : Int) == 0) = false := by rw [beq_eq_false_iff_ne]; omega
  have g1 : ¬ (((fr t n).length : Int) < (m : Int)) := by omega
  have g1n : ¬ ((fr t n).length < m) := by omega
  have HFM := hid hfm
  have HNU := hid hnums
  clear hnums
  have HT := hid htk
  have HM := hid hm
  have HF := hid hF
  have HONE := hid hone
  have HD := hid hd
  clear hkp hkt hkg hb hB haB hok hfree hfm htk hm hF hone hd hfl hvfb
  generalize hfne : (fr t n).length = fn at *
  have HFNE := hid hfne
  clear hfne
  go_enter Tryz.func39, Tryz.ntmps39
  go_wp2
  go_loopw [6] (fun x wx => ∃ i : Nat, i ≤ m ∧ x = .int .i64 i ∧ wx = w) (fun x _ => m - (RowKit.intOf x).toNat)
  case atStart => exact ⟨0, Nat.zero_le _, rfl, rfl⟩
  case round =>
    obtain ⟨i, hi, rfl, hww⟩ := hrel
    rw [hww]
    clear hww
    by_cases hil : i < m
    · have hii : (i : Int) < m := by omega
      have hi0 : (0 : Int) ≤ (i : Int) := by omega
      have ei : IntKind.i64.wrap ((i : Int) + 1) = (i : Int) + 1 := IntWalk.i64_in _ (by omega)
      obtain ⟨bb, ob, hab, hbg, c0, c1, c2⟩ := HBu.out i (by rw [Hb.out]; exact hil)
      have hbok := okB_get HOK.out Hb.out hil
      subst hab
      generalize bufs.getD i default = bf at *
      obtain ⟨baddr, blen, bwt⟩ := bf
      obtain ⟨k1, k1', k2, k3⟩ := hbok
      simp only at c0 c1 c2 k1 k1' k2 k3
      have q1 : ¬ (baddr < 0) := by omega
      have q2 : ¬ (blen < 0) := by omega
      have q3 : ¬ ((4294967296 : Int) ≤ blen) := by omega
      clear k1 k1' k2 k3
      go_wp2
      go_roundw
      case rel => exact ⟨i + 1, by omega, by go_num, trivial⟩
      case measure => simp only [RowKit.intOf]; omega
    · have hii : ¬ ((i : Int) < m) := by omega
      clear hil hi
      go_wp2_with (go_at_call 61; refine HFR.out.mono ?_; rintro e w5 ⟨rfl, hw5⟩; rw [hw5]; clear hw5 w5)
      clear g0 g1 hii g1n
      go_loopw [8] (fun x wx => ∃ i : Nat, i ≤ n ∧ x = .int .i64 i ∧ (fr t i).length ≤ m ∧ ∃ v, wx.heap[w.heap.size]? = some (.cells #[.int .i64 0, v] 127 (0, 0)) ∧ wx.ownsRow (w.heap.size + 1) 3 1 v (fr t i).length ((fr t i).map encN) ∧ Below w.heap.size w wx) (fun x _ => n - (RowKit.intOf x).toNat)
      case atStart => exact ⟨0, Nat.zero_le _, rfl, Nat.zero_le _, _, (MapKept.heap_alloc w _).1, ⟨rfl, .inl ⟨rfl, rfl⟩⟩, (Below.refl _ _).alloc (Nat.le_refl _) _⟩
      case round =>
        obtain ⟨i2, hi2, rfl, hlm, v, hbx, hown, hbel⟩ := hrel
        have HBX := hid hbx
        have HOW := hid hown
        have HBL := hid hbel
        obtain ⟨b0, b1, bz0, bz1⟩ := box90 hbx
        obtain ⟨va, vc, hv⟩ := owns_slice hown
        subst hv
        have hBl : w.heap.size < wr.heap.size := (Array.getElem?_eq_some_iff.1 hbx).1
        have HDr : Hid (RBox wr p gt (.slice fa fl fc) g len cap base n put got) := hid ((hbel.block p hpl).trans HD.out)
        obtain ⟨d0, d1, d2, d3, d4, d5, d6, fz4, fz5, fz6⟩ := HDr.out.cells
        have ei2 : IntKind.i64.wrap ((i2 : Int) + 1) = (i2 : Int) + 1 := IntWalk.i64_in _ (by omega)
        clear hbx hown hbel
        by_cases hin : i2 < n
        · have hini : (i2 : Int) < n := by omega
          by_cases hlm2 : (fr t i2).length < m
          · have hlmi : ((fr t i2).length : Int) < m := by omega
            have htc := cell_later HBL.out (HT.out.cell hin)
            have HSU := hid (fr_succ t i2)
            have hi20 : (0 : Int) ≤ (i2 : Int) := by omega
            cases htv : t i2 with
            | true =>
              rw [htv] at htc
              have HTV := hid htv
              clear htv
              go_wp2
              go_roundw
              case rel =>
                have e : fr t (i2 + 1) = fr t i2 := by rw [HSU.out, HTV.out]; simp
                refine ⟨i2 + 1, by omega, by go_num, by rw [e]; exact hlm, _, HBX.out, ?_, HBL.out⟩
                rw [e]
                exact HOW.out
              case measure => simp only [RowKit.intOf]; omega
            | false =>
              rw [htv] at htc
              have HTV := hid htv
              clear htv
              have HO5 := hid (owns_below HOW.out ((Below.refl _ wr).alloc (Nat.le_refl _) (.cells #[.int .i64 (i2 : Int)] 3)))
              have HB5 := hid (HBL.out.alloc HBL.out.size (.cells #[.int .i64 (i2 : Int)] 3))
              have HLL : Hid ((fr t i2).length ≤ 65536) := hid (by have := fr_len t i2; omega)
              have HL4 : Hid (w.heap.size + 1 ≤ wr.heap.size) := hid hBl
              have HBX5 : Hid ((wr.alloc (.cells #[.int .i64 (i2 : Int)] 3)).heap[w.heap.size]? = some (.cells #[.int .i64 0, .slice va (fr t i2).length vc] 127 (0, 0))) := hid ((((Below.refl wr.heap.size wr).alloc (Nat.le_refl _) _).block w.heap.size hBl).trans HBX.out)
              go_wp2_with (at_builtin; refine wpList_append_n rfl (.tmp 75) (.tmp 77) rfl (w.heap.size + 1) wr i2 _ (fr t i2) rfl HO5.out _ rfl HLL.out HL4.out ?_; intro v6 w6 hown6 hgrow6; have hbx6 : w6.heap[w.heap.size]? = some (.cells #[.int .i64 0, .slice va (fr t i2).length vc] 127 (0, 0)) := (hgrow6.out.block w.heap.size (by simp; omega) (fun e => by have := (owns_lt HO5.out e.symm).2; omega)).trans HBX5.out; obtain ⟨y0, y1, z0, z1⟩ := box90 hbx6; have HBX6 := hid hbx6; clear hbx6; obtain ⟨va6, vc6, hv6⟩ := owns_slice hown6.out; subst hv6)
              go_roundw
              case rel =>
                have e : fr t (i2 + 1) = fr t i2 ++ [i2] := by rw [HSU.out, HTV.out]; simp
                refine ⟨i2 + 1, by omega, by go_num, by rw [e, List.length_append, List.length_singleton]; omega, _, setc HBX6.out 1 _, ?_, ?_⟩
                · rw [e]
                  have hown7 := hown6.out
                  rw [show Value.slice va6 (fr t i2 ++ [i2]).length vc6 = .slice va6 ((fr t i2).length + 1) vc6 by rw [List.length_append, List.length_singleton]] at hown7
                  refine owns_keep hown7 (fun b hb => Below.heap_setCell _ _ _ _ ?_)
                  have := (owns_lt hown7 hb).2
                  show b ≠ w.heap.size
                  omega
                · exact (HB5.out.grown hgrow6.out HB5.out.size (fun b hb => by have := (owns_lt HO5.out hb).2; omega)).setCell (p := ⟨w.heap.size, 1, none⟩) (Nat.le_refl _) _
              case measure => simp only [RowKit.intOf]; omega
          · have hlmi : ¬ (((fr t i2).length : Int) < m) := by omega
            have hTAK : fr t i2 = nums := (fr_take hi2 (by omega)).symm.trans HNU.out
            have hLm : nums.length = m := by have h2 := congrArg List.length HNU.out; rw [List.length_take] at h2; have := HFM.out; have := HFNE.out; omega
            rw [hTAK] at HBX HOW hlm b1
            rw [hTAK] at hlmi
            obtain ⟨vb, vc', hv, hvb1, hvb2, hcells⟩ := owns_cells HOW.out (by omega)
            simp only [Value.slice.injEq] at hv
            obtain ⟨hv1, _, hv2⟩ := hv
            subst hv1 hv2
            have HNLT : Hid (∀ x ∈ nums, x < n) := hid (fun x hx => by rw [← hTAK] at hx; have := (fr_lt hx).1; omega)
            clear HFM HFNE HFR hTAK HNU
            have HLM := hid hLm
            rw [hLm] at HBX HOW hlm hcells b1
            rw [hLm] at hlmi
            have HCE := hid hcells
            have hk0 := HNLT.out (nums.getD 0 0) (getD_mem nums 0 0 (by omega))
            have cv0 := hcells 0 h0
            generalize hke : nums.getD 0 0 = k0 at *
            have HKE := hid hke
            clear hcells hke hLm
            skip
            go_wp2
            have hbxW := setc HBX.out 0 (.int .i64 (k0 : Int))
            have hbeW : Below w.heap.size w (wr.setCell ⟨w.heap.size, 0, none⟩ (.int .i64 (k0 : Int))) := HBL.out.setCell (p := ⟨w.heap.size, 0, none⟩) (Nat.le_refl _) _
            have HCW : Hid (∀ i, i < m → (wr.setCell ⟨w.heap.size, 0, none⟩ (.int .i64 (k0 : Int))).cell? ⟨vb, i, none⟩ = some (.int .i64 (nums.getD i 0 : Nat))) := hid (fun i hi => ((Mods.refl (fun b => b = w.heap.size) wr).setCell w.heap.size 0 (.int .i64 (k0 : Int)) rfl).cell (HCE.out i hi) (by omega))
            have HOWW : Hid ((wr.setCell ⟨w.heap.size, 0, none⟩ (.int .i64 (k0 : Int))).ownsRow (w.heap.size + 1) 3 1 (.slice (some ⟨vb, 0, none⟩) m vc) m (nums.map encN)) := hid (owns_keep HOW.out (fun b hb => Below.heap_setCell _ _ _ _ (by have := (owns_lt HOW.out hb).2; show b ≠ w.heap.size; omega)))
            have hsW : wr.heap.size = (wr.setCell ⟨w.heap.size, 0, none⟩ (.int .i64 (k0 : Int))).heap.size := by simp [World.setCell]
            have HHSW := hid hsW
            have HBXW : Hid ((wr.setCell ⟨w.heap.size, 0, none⟩ (.int .i64 (k0 : Int))).heap[w.heap.size]? = some (.cells #[.int .i64 k0, .slice (some ⟨vb, 0, none⟩) m vc] 127 (0, 0))) := hid hbxW
            have HBEW := hid hbeW
            clear hbxW hbeW HBX HBL HDr HOW HCE b0 b1 bz0 bz1 d0 d1 d2 d3 d4 d5 d6 fz4 fz5 fz6 hsW cv0
            generalize wr.setCell ⟨w.heap.size, 0, none⟩ (.int .i64 (k0 : Int)) = W at *
            have HDW : Hid (RBox W p gt (.slice fa fl fc) g len cap base n put got) := hid ((HBEW.out.block p hpl).trans HD.out)
            obtain ⟨d0, d1, d2, d3, d4, d5, d6, fz4, fz5, fz6⟩ := HDW.out.cells
            obtain ⟨b0, b1, bz0, bz1⟩ := box90 HBXW.out
            go_loopw [9] (fun x wx => ∃ k : Nat, k ≤ m ∧ x = .int .i64 k ∧ Mods (fun b => b = gt ∨ b = g) W wx ∧ Mem wx g N (layTo f base nums bufs k) ∧ Tk wx gt n (fun j => t j || (nums.take k).contains j)) (fun x _ => m - (RowKit.intOf x).toNat)
            case atStart => exact ⟨0, Nat.zero_le _, rfl, Mods.refl _ _, HM.out.below HBEW.out, (HT.out.keep (HBEW.out.block gt hgtl)).congr (fun j _ => by simp)⟩
            case round =>
              obtain ⟨k, hk, rfl, hmo, hmem, htk⟩ := hrel
              have hnp : ¬ (p = gt ∨ p = g) := by omega
              have hnB : ¬ (w.heap.size = gt ∨ w.heap.size = g) := by omega
              have hnv : ¬ (vb = gt ∨ vb = g) := by omega
              have d0k := hmo.cell d0 hnp
              have d1k := hmo.cell d1 hnp
              have d3k := hmo.cell d3 hnp
              have b1k := hmo.cell b1 hnB
              have HMO := hid hmo
              have HME := hid hmem
              have HTK := hid htk
              have ek : IntKind.i64.wrap ((k : Int) + 1) = (k : Int) + 1 := IntWalk.i64_in _ (by omega)
              by_cases hkm : k < m
              · have hki : (k : Int) < m := by omega
                have hk0' : (0 : Int) ≤ (k : Int) := by omega
                obtain ⟨bb, ob, hab, hbg, c0, c1, c2⟩ := HBu.out k (by rw [Hb.out]; exact hkm)
                obtain ⟨hbl, hbp, hbt⟩ := HaB.out bb ob hab
                have hnb : ¬ (bb = gt ∨ bb = g) := by omega
                replace c0 := hmo.cell (cell_later HBEW.out c0) hnb
                replace c1 := hmo.cell (cell_later HBEW.out c1) hnb
                replace c2 := hmo.cell (cell_later HBEW.out c2) hnb
                subst hab
                have cvk := hmo.cell (HCW.out k hkm) hnv
                have hx := HNLT.out _ (getD_mem nums 0 k (by rw [HLM.out]; exact hkm))
                have hbok := HOK.out _ (getD_mem bufs default k (by rw [Hb.out]; exact hkm))
                have hlay : layTo f base nums bufs (k + 1) = put1 (layTo f base nums bufs k) (base + nums.getD k 0 * 16) (bufs.getD k default) (flagsOf (bufs.getD k default).wt (decide (k + 1 < bufs.length))) (if k + 1 < bufs.length then (nums.getD (k + 1) 0 : Nat) else 0) := rfl
                rw [Hb.out] at hlay
                have HTH := hid (take_has nums k (by rw [HLM.out]; exact hkm))
                generalize bufs.getD k default = bf at *
                generalize nums.getD k 0 = x at *
                obtain ⟨baddr, blen, bwt⟩ := bf
                simp only at c0 c1 c2
                have HBOK := hid hbok
                have hxn : (x : Int) < n := by omega
                have hx0 : (0 : Int) ≤ (x : Int) := by omega
                have hct := HTK.out.cell hx
                have hfz := HTK.out.frozen x
                have ea1 : IntKind.i64.wrap (16 * (x : Int)) = 16 * (x : Int) := IntWalk.i64_in _ (by omega)
                have ea2 : IntKind.i64.wrap ((base : Int) + 16 * x) = ((base + x * 16 : Nat) : Int) := by rw [IntWalk.i64_in _ (by omega)]; omega
                have ea8 : IntKind.i64.wrap (((base + x * 16 : Nat) : Int) + 8) = ((base + x * 16 + 8 : Nat) : Int) := by rw [IntWalk.i64_in _ (by omega)]; omega
                have ea12 : IntKind.i64.wrap (((base + x * 16 : Nat) : Int) + 12) = ((base + x * 16 + 12 : Nat) : Int) := by rw [IntWalk.i64_in _ (by omega)]; omega
                have ea14 : IntKind.i64.wrap (((base + x * 16 : Nat) : Int) + 14) = ((base + x * 16 + 14 : Nat) : Int) := by rw [IntWalk.i64_in _ (by omega)]; omega
                have ha : base + x * 16 + 16 ≤ len := by omega
                generalize base + x * 16 = a at *
                have hms : Mods (fun b => b = gt) wr (wr.setCell ⟨gt, x, none⟩ (.bool true)) := (Mods.refl (fun b => b = gt) wr).setCell gt x (.bool true) rfl
                have HMS := hid hms
                have HS5 := hid (And.intro (hms.cell d3k (fun e => hgtp e.symm)) (And.intro (hms.cell b1k (by omega)) (hms.cell cvk (by omega))))
                clear hms hmo hmem htk hbok
                go_wp2
                go_region_held3 (fun w' => w'.cell? ⟨p, 3, none⟩ = some (.slice (some ⟨gt, 0, none⟩) n n) ∧ w'.cell? ⟨w.heap.size, 1, none⟩ = some (.slice (some ⟨vb, 0, none⟩) m vc) ∧ w'.cell? ⟨vb, k, none⟩ = some (.int .i64 x)) ((first | exact ⟨d3k, b1k, cvk⟩ | exact HS5.out)) (fail)
                have hT5 : Tk (wr.setCell ⟨gt, x, none⟩ (.bool true)).drew gt n (fun j => if j = x then true else (t j || (nums.take k).contains j)) := HTK.out.set x true
                have hm5 : Mods (fun b => b = gt) wr (wr.setCell ⟨gt, x, none⟩ (.bool true)).drew := HMS.out.drew
                clear HS5 HMS hct hfz
                generalize (wr.setCell ⟨gt, x, none⟩ (.bool true)).drew = w5 at *
                have HT5 := hid hT5
                replace d0k := hm5.cell d0k (fun e => hgtp e.symm)
                replace d1k := hm5.cell d1k (fun e => hgtp e.symm)
                replace b1k := hm5.cell b1k (by omega)
                replace cvk := hm5.cell cvk (by omega)
                replace c0 := hm5.cell c0 hbt
                replace c1 := hm5.cell c1 hbt
                replace c2 := hm5.cell c2 hbt
                have HM5 := hid hm5
                have HMO5 := hid (HMO.out.trans hm5 (fun b e => .inl (.inl e)))
                have HME5 := hid (HME.out.mods hm5 hggt)
                clear hT5 hm5 d3k HMO HME HTK
                go_wp2
                go_quiet (fail)
                obtain ⟨wA, hwA⟩ : ∃ wA, wA = w5.drewN nq := ⟨_, rfl⟩
                rw [← hwA]
                have hbA : Below w5.heap.size w5 wA := by rw [hwA]; exact below_drewN (Below.refl _ _) _
                clear hwA
                replace d0k := cell_later hbA d0k
                replace b1k := cell_later hbA b1k
                replace c0 := cell_later hbA c0
                replace c1 := cell_later hbA c1
                replace c2 := cell_later hbA c2
                have HMEA := hid (HME5.out.below hbA)
                have HTA := hid (HT5.out.keep (hbA.block gt (HT5.out.lt)))
                have HMOA := hid (HMO5.out.below hbA)
                clear hbA HT5 HME5 HMO5 cvk d1k
                have ef2 : IntKind.i64.wrap 2 = 2 := by decide
                have ef3 : IntKind.i64.wrap 3 = 3 := by decide
                have ef4 : IntKind.i64.wrap (1 + 2) = 3 := by decide
                have ef5 : IntKind.i64.wrap (0 + 2) = 2 := by decide
                by_cases hmore : k + 1 < m
                · have hmi : (k : Int) + 1 < m := by omega
                  have hk1' : (0 : Int) ≤ (k : Int) + 1 := by omega
                  have cvn := HMOA.out.cell (HCW.out (k + 1) hmore) hnv
                  have hx1 := HNLT.out _ (getD_mem nums 0 (k + 1) (by rw [HLM.out]; exact hmore))
                  rw [if_pos hmore, decide_eq_true hmore] at hlay
                  generalize nums.getD (k + 1) 0 = x1 at *
                  cases bwt
                  · have HLay : Hid (layTo f base nums bufs (k + 1) = put1 (layTo f base nums bufs k) a ⟨baddr, blen, false⟩ 1 (x1 : Nat)) := hid hlay
                    clear hlay
                    obtain ⟨q1, q2, q3, q4⟩ := HBOK.out
                    simp only at q1 q2 q3 q4
                    have hc := hid (refset_any wA.drew g N len cap a 8 _ baddr (HMEA.out.below (Below.refl wA.heap.size wA).drew) hle hbig (by omega) (by omega) q1 q2)
                    go_wp2
                    go_region_held3 (fun w' => w'.cell? ⟨p, 0, none⟩ = some (.slice (some ⟨g, 0, none⟩) len cap) ∧ w'.cell? ⟨bb, ob + k * 3, none⟩ = some (.int .i64 baddr)) ((first | exact ⟨d0k, c0⟩ | exact HS6.out))
                      ((go_at_call 62; refine hc.out.mono ?_; rintro e w6 ⟨rfl, hm6, hmo6⟩; have HM6 := hid hm6; have HMO6 := hid hmo6; have HS6 := hid (And.intro (hmo6.cell (w := wA.drew) d0k (fun e => hgp e.symm)) (hmo6.cell (w := wA.drew) c0 hbg)); clear hm6 hmo6))
                    have d06 := HS6.out.1
                    have c16 := HMO6.out.cell (w := wA.drew) c1 hbg
                    have HMOB := hid ((HMOA.out.drew).trans HMO6.out (fun b e => .inl (.inr e)))
                    have hc7 := hid (refset_any w6.drew g N len cap (a + 8) 4 _ blen (HM6.out.below (Below.refl w6.heap.size w6).drew) hle hbig (by omega) (by omega) q3 (by omega))
                    clear HS6 hc d0k c0 c1 c2 b1k
                    go_wp2
                    go_region_held3 (fun w' => w'.cell? ⟨p, 0, none⟩ = some (.slice (some ⟨g, 0, none⟩) len cap) ∧ w'.cell? ⟨bb, ob + k * 3 + 1, none⟩ = some (.int .i64 blen)) ((first | exact ⟨d06, c16⟩ | exact HS7.out))
                      ((go_at_call 62; refine hc7.out.mono ?_; rintro e w7 ⟨rfl, hm7, hmo7⟩; have HM7 := hid hm7; have HMO7 := hid hmo7; have HS7 := hid (And.intro (hmo7.cell (w := w6.drew) d06 (fun e => hgp e.symm)) (hmo7.cell (w := w6.drew) c16 hbg)); clear hm7 hmo7))
                    have d07 := HS7.out.1
                    have HMOC := hid ((HMOB.out.drew).trans HMO7.out (fun b e => .inl (.inr e)))
                    have hc8 := hid (refset_any w7 g N len cap (a + 12) 2 _ 1 HM7.out hle hbig (by omega) (by omega) (by omega) (by omega))
                    clear HS7 hc7 d06 c16
                    go_wp2_with fail
                    refine hc8.out.mono ?_
                    rintro e w8 ⟨rfl, hm8, hmo8⟩
                    have d08 := hmo8.cell d07 (fun e => hgp e.symm)
                    have HM8 := hid hm8
                    have HMOD := hid (HMOC.out.trans hmo8 (fun b e => .inl (.inr e)))
                    have hc9 := hid (refset_any w8 g N len cap (a + 14) 2 _ (x1 : Nat) HM8.out hle hbig (by omega) (by omega) (by omega) (by omega))
                    have HK8 := hid hmo8
                    clear hm8 hmo8 hc8 d07
                    go_wp2_with fail
                    refine hc9.out.mono ?_
                    rintro e w9 ⟨rfl, hm9, hmo9⟩
                    have HM9 := hid hm9
                    have HMOE := hid (HMOD.out.trans hmo9 (fun b e => .inl (.inr e)))
                    have HK9 := hid hmo9
                    clear hm9 hmo9 hc9 d08
                    go_wp2
                    go_roundw
                    case rel =>
                      refine ⟨k + 1, by omega, by go_num, HMOE.out, ?_, ?_⟩
                      · rw [HLay.out]
                        exact HM9.out
                      · have hbt : w9.heap[gt]? = wA.heap[gt]? := by
                          have l0 := HTA.out.lt
                          have l6 := HMO6.out.size
                          have l7 := HMO7.out.size
                          have l8 := HK8.out.size
                          have l6' : wA.heap.size ≤ w6.heap.size := l6
                          have l7' : w6.heap.size ≤ w7.heap.size := l7
                          exact ((HK9.out.block gt (by omega) (fun e => hggt e.symm)).trans (HK8.out.block gt (by omega) (fun e => hggt e.symm))).trans ((HMO7.out.block gt (show gt < w6.heap.size by omega) (fun e => hggt e.symm)).trans (HMO6.out.block gt l0 (fun e => hggt e.symm)))
                        refine (HTA.out.keep hbt).congr (fun j _ => ?_)
                        rw [HTH.out]
                        by_cases e : j = x
                        · simp [e]
                        · rw [if_neg e, beq_eq_false_iff_ne.2 e, Bool.or_false]
                    case measure => simp only [RowKit.intOf]; omega
                  · have HLay : Hid (layTo f base nums bufs (k + 1) = put1 (layTo f base nums bufs k) a ⟨baddr, blen, true⟩ 3 (x1 : Nat)) := hid hlay
                    clear hlay
                    obtain ⟨q1, q2, q3, q4⟩ := HBOK.out
                    simp only at q1 q2 q3 q4
                    have hc := hid (refset_any wA.drew g N len cap a 8 _ baddr (HMEA.out.below (Below.refl wA.heap.size wA).drew) hle hbig (by omega) (by omega) q1 q2)
                    go_wp2
                    go_region_held3 (fun w' => w'.cell? ⟨p, 0, none⟩ = some (.slice (some ⟨g, 0, none⟩) len cap) ∧ w'.cell? ⟨bb, ob + k * 3, none⟩ = some (.int .i64 baddr)) ((first | exact ⟨d0k, c0⟩ | exact HS6.out))
                      ((go_at_call 62; refine hc.out.mono ?_; rintro e w6 ⟨rfl, hm6, hmo6⟩; have HM6 := hid hm6; have HMO6 := hid hmo6; have HS6 := hid (And.intro (hmo6.cell (w := wA.drew) d0k (fun e => hgp e.symm)) (hmo6.cell (w := wA.drew) c0 hbg)); clear hm6 hmo6))
                    have d06 := HS6.out.1
                    have c16 := HMO6.out.cell (w := wA.drew) c1 hbg
                    have HMOB := hid ((HMOA.out.drew).trans HMO6.out (fun b e => .inl (.inr e)))
                    have hc7 := hid (refset_any w6.drew g N len cap (a + 8) 4 _ blen (HM6.out.below (Below.refl w6.heap.size w6).drew) hle hbig (by omega) (by omega) q3 (by omega))
                    clear HS6 hc d0k c0 c1 c2 b1k
                    go_wp2
                    go_region_held3 (fun w' => w'.cell? ⟨p, 0, none⟩ = some (.slice (some ⟨g, 0, none⟩) len cap) ∧ w'.cell? ⟨bb, ob + k * 3 + 1, none⟩ = some (.int .i64 blen)) ((first | exact ⟨d06, c16⟩ | exact HS7.out))
                      ((go_at_call 62; refine hc7.out.mono ?_; rintro e w7 ⟨rfl, hm7, hmo7⟩; have HM7 := hid hm7; have HMO7 := hid hmo7; have HS7 := hid (And.intro (hmo7.cell (w := w6.drew) d06 (fun e => hgp e.symm)) (hmo7.cell (w := w6.drew) c16 hbg)); clear hm7 hmo7))
                    have d07 := HS7.out.1
                    have HMOC := hid ((HMOB.out.drew).trans HMO7.out (fun b e => .inl (.inr e)))
                    have hc8 := hid (refset_any w7 g N len cap (a + 12) 2 _ 3 HM7.out hle hbig (by omega) (by omega) (by omega) (by omega))
                    clear HS7 hc7 d06 c16
                    go_wp2_with fail
                    refine hc8.out.mono ?_
                    rintro e w8 ⟨rfl, hm8, hmo8⟩
                    have d08 := hmo8.cell d07 (fun e => hgp e.symm)
                    have HM8 := hid hm8
                    have HMOD := hid (HMOC.out.trans hmo8 (fun b e => .inl (.inr e)))
                    have hc9 := hid (refset_any w8 g N len cap (a + 14) 2 _ (x1 : Nat) HM8.out hle hbig (by omega) (by omega) (by omega) (by omega))
                    have HK8 := hid hmo8
                    clear hm8 hmo8 hc8 d07
                    go_wp2_with fail
                    refine hc9.out.mono ?_
                    rintro e w9 ⟨rfl, hm9, hmo9⟩
                    have HM9 := hid hm9
                    have HMOE := hid (HMOD.out.trans hmo9 (fun b e => .inl (.inr e)))
                    have HK9 := hid hmo9
                    clear hm9 hmo9 hc9 d08
                    go_wp2
                    go_roundw
                    case rel =>
                      refine ⟨k + 1, by omega, by go_num, HMOE.out, ?_, ?_⟩
                      · rw [HLay.out]
                        exact HM9.out
                      · have hbt : w9.heap[gt]? = wA.heap[gt]? := by
                          have l0 := HTA.out.lt
                          have l6 := HMO6.out.size
                          have l7 := HMO7.out.size
                          have l8 := HK8.out.size
                          have l6' : wA.heap.size ≤ w6.heap.size := l6
                          have l7' : w6.heap.size ≤ w7.heap.size := l7
                          exact ((HK9.out.block gt (by omega) (fun e => hggt e.symm)).trans (HK8.out.block gt (by omega) (fun e => hggt e.symm))).trans ((HMO7.out.block gt (show gt < w6.heap.size by omega) (fun e => hggt e.symm)).trans (HMO6.out.block gt l0 (fun e => hggt e.symm)))
                        refine (HTA.out.keep hbt).congr (fun j _ => ?_)
                        rw [HTH.out]
                        by_cases e : j = x
                        · simp [e]
                        · rw [if_neg e, beq_eq_false_iff_ne.2 e, Bool.or_false]
                    case measure => simp only [RowKit.intOf]; omega
                · have hmi : ¬ ((k : Int) + 1 < m) := by omega
                  rw [if_neg hmore, decide_eq_false hmore] at hlay
                  cases bwt
                  · have HLay : Hid (layTo f base nums bufs (k + 1) = put1 (layTo f base nums bufs k) a ⟨baddr, blen, false⟩ 0 0) := hid hlay
                    clear hlay
                    obtain ⟨q1, q2, q3, q4⟩ := HBOK.out
                    simp only at q1 q2 q3 q4
                    have hc := hid (refset_any wA.drew g N len cap a 8 _ baddr (HMEA.out.below (Below.refl wA.heap.size wA).drew) hle hbig (by omega) (by omega) q1 q2)
                    go_wp2
                    go_region_held3 (fun w' => w'.cell? ⟨p, 0, none⟩ = some (.slice (some ⟨g, 0, none⟩) len cap) ∧ w'.cell? ⟨bb, ob + k * 3, none⟩ = some (.int .i64 baddr)) ((first | exact ⟨d0k, c0⟩ | exact HS6.out))
                      ((go_at_call 62; refine hc.out.mono ?_; rintro e w6 ⟨rfl, hm6, hmo6⟩; have HM6 := hid hm6; have HMO6 := hid hmo6; have HS6 := hid (And.intro (hmo6.cell (w := wA.drew) d0k (fun e => hgp e.symm)) (hmo6.cell (w := wA.drew) c0 hbg)); clear hm6 hmo6))
                    have d06 := HS6.out.1
                    have c16 := HMO6.out.cell (w := wA.drew) c1 hbg
                    have HMOB := hid ((HMOA.out.drew).trans HMO6.out (fun b e => .inl (.inr e)))
                    have hc7 := hid (refset_any w6.drew g N len cap (a + 8) 4 _ blen (HM6.out.below (Below.refl w6.heap.size w6).drew) hle hbig (by omega) (by omega) q3 (by omega))
                    clear HS6 hc d0k c0 c1 c2 b1k
                    go_wp2
                    go_region_held3 (fun w' => w'.cell? ⟨p, 0, none⟩ = some (.slice (some ⟨g, 0, none⟩) len cap) ∧ w'.cell? ⟨bb, ob + k * 3 + 1, none⟩ = some (.int .i64 blen)) ((first | exact ⟨d06, c16⟩ | exact HS7.out))
                      ((go_at_call 62; refine hc7.out.mono ?_; rintro e w7 ⟨rfl, hm7, hmo7⟩; have HM7 := hid hm7; have HMO7 := hid hmo7; have HS7 := hid (And.intro (hmo7.cell (w := w6.drew) d06 (fun e => hgp e.symm)) (hmo7.cell (w := w6.drew) c16 hbg)); clear hm7 hmo7))
                    have d07 := HS7.out.1
                    have HMOC := hid ((HMOB.out.drew).trans HMO7.out (fun b e => .inl (.inr e)))
                    have hc8 := hid (refset_any w7 g N len cap (a + 12) 2 _ 0 HM7.out hle hbig (by omega) (by omega) (by omega) (by omega))
                    clear HS7 hc7 d06 c16
                    go_wp2_with fail
                    refine hc8.out.mono ?_
                    rintro e w8 ⟨rfl, hm8, hmo8⟩
                    have d08 := hmo8.cell d07 (fun e => hgp e.symm)
                    have HM8 := hid hm8
                    have HMOD := hid (HMOC.out.trans hmo8 (fun b e => .inl (.inr e)))
                    have hc9 := hid (refset_any w8 g N len cap (a + 14) 2 _ 0 HM8.out hle hbig (by omega) (by omega) (by omega) (by omega))
                    have HK8 := hid hmo8
                    clear hm8 hmo8 hc8 d07
                    go_wp2_with fail
                    refine hc9.out.mono ?_
                    rintro e w9 ⟨rfl, hm9, hmo9⟩
                    have HM9 := hid hm9
                    have HMOE := hid (HMOD.out.trans hmo9 (fun b e => .inl (.inr e)))
                    have HK9 := hid hmo9
                    clear hm9 hmo9 hc9 d08
                    go_wp2
                    go_roundw
                    case rel =>
                      refine ⟨k + 1, by omega, by go_num, HMOE.out, ?_, ?_⟩
                      · rw [HLay.out]
                        exact HM9.out
                      · have hbt : w9.heap[gt]? = wA.heap[gt]? := by
                          have l0 := HTA.out.lt
                          have l6 := HMO6.out.size
                          have l7 := HMO7.out.size
                          have l8 := HK8.out.size
                          have l6' : wA.heap.size ≤ w6.heap.size := l6
                          have l7' : w6.heap.size ≤ w7.heap.size := l7
                          exact ((HK9.out.block gt (by omega) (fun e => hggt e.symm)).trans (HK8.out.block gt (by omega) (fun e => hggt e.symm))).trans ((HMO7.out.block gt (show gt < w6.heap.size by omega) (fun e => hggt e.symm)).trans (HMO6.out.block gt l0 (fun e => hggt e.symm)))
                        refine (HTA.out.keep hbt).congr (fun j _ => ?_)
                        rw [HTH.out]
                        by_cases e : j = x
                        · simp [e]
                        · rw [if_neg e, beq_eq_false_iff_ne.2 e, Bool.or_false]
                    case measure => simp only [RowKit.intOf]; omega
                  · have HLay : Hid (layTo f base nums bufs (k + 1) = put1 (layTo f base nums bufs k) a ⟨baddr, blen, true⟩ 2 0) := hid hlay
                    clear hlay
                    obtain ⟨q1, q2, q3, q4⟩ := HBOK.out
                    simp only at q1 q2 q3 q4
                    have hc := hid (refset_any wA.drew g N len cap a 8 _ baddr (HMEA.out.below (Below.refl wA.heap.size wA).drew) hle hbig (by omega) (by omega) q1 q2)
                    go_wp2
                    go_region_held3 (fun w' => w'.cell? ⟨p, 0, none⟩ = some (.slice (some ⟨g, 0, none⟩) len cap) ∧ w'.cell? ⟨bb, ob + k * 3, none⟩ = some (.int .i64 baddr)) ((first | exact ⟨d0k, c0⟩ | exact HS6.out))
                      ((go_at_call 62; refine hc.out.mono ?_; rintro e w6 ⟨rfl, hm6, hmo6⟩; have HM6 := hid hm6; have HMO6 := hid hmo6; have HS6 := hid (And.intro (hmo6.cell (w := wA.drew) d0k (fun e => hgp e.symm)) (hmo6.cell (w := wA.drew) c0 hbg)); clear hm6 hmo6))
                    have d06 := HS6.out.1
                    have c16 := HMO6.out.cell (w := wA.drew) c1 hbg
                    have HMOB := hid ((HMOA.out.drew).trans HMO6.out (fun b e => .inl (.inr e)))
                    have hc7 := hid (refset_any w6.drew g N len cap (a + 8) 4 _ blen (HM6.out.below (Below.refl w6.heap.size w6).drew) hle hbig (by omega) (by omega) q3 (by omega))
                    clear HS6 hc d0k c0 c1 c2 b1k
                    go_wp2
                    go_region_held3 (fun w' => w'.cell? ⟨p, 0, none⟩ = some (.slice (some ⟨g, 0, none⟩) len cap) ∧ w'.cell? ⟨bb, ob + k * 3 + 1, none⟩ = some (.int .i64 blen)) ((first | exact ⟨d06, c16⟩ | exact HS7.out))
                      ((go_at_call 62; refine hc7.out.mono ?_; rintro e w7 ⟨rfl, hm7, hmo7⟩; have HM7 := hid hm7; have HMO7 := hid hmo7; have HS7 := hid (And.intro (hmo7.cell (w := w6.drew) d06 (fun e => hgp e.symm)) (hmo7.cell (w := w6.drew) c16 hbg)); clear hm7 hmo7))
                    have d07 := HS7.out.1
                    have HMOC := hid ((HMOB.out.drew).trans HMO7.out (fun b e => .inl (.inr e)))
                    have hc8 := hid (refset_any w7 g N len cap (a + 12) 2 _ 2 HM7.out hle hbig (by omega) (by omega) (by omega) (by omega))
                    clear HS7 hc7 d06 c16
                    go_wp2_with fail
                    refine hc8.out.mono ?_
                    rintro e w8 ⟨rfl, hm8, hmo8⟩
                    have d08 := hmo8.cell d07 (fun e => hgp e.symm)
                    have HM8 := hid hm8
                    have HMOD := hid (HMOC.out.trans hmo8 (fun b e => .inl (.inr e)))
                    have hc9 := hid (refset_any w8 g N len cap (a + 14) 2 _ 0 HM8.out hle hbig (by omega) (by omega) (by omega) (by omega))
                    have HK8 := hid hmo8
                    clear hm8 hmo8 hc8 d07
                    go_wp2_with fail
                    refine hc9.out.mono ?_
                    rintro e w9 ⟨rfl, hm9, hmo9⟩
                    have HM9 := hid hm9
                    have HMOE := hid (HMOD.out.trans hmo9 (fun b e => .inl (.inr e)))
                    have HK9 := hid hmo9
                    clear hm9 hmo9 hc9 d08
                    go_wp2
                    go_roundw
                    case rel =>
                      refine ⟨k + 1, by omega, by go_num, HMOE.out, ?_, ?_⟩
                      · rw [HLay.out]
                        exact HM9.out
                      · have hbt : w9.heap[gt]? = wA.heap[gt]? := by
                          have l0 := HTA.out.lt
                          have l6 := HMO6.out.size
                          have l7 := HMO7.out.size
                          have l8 := HK8.out.size
                          have l6' : wA.heap.size ≤ w6.heap.size := l6
                          have l7' : w6.heap.size ≤ w7.heap.size := l7
                          exact ((HK9.out.block gt (by omega) (fun e => hggt e.symm)).trans (HK8.out.block gt (by omega) (fun e => hggt e.symm))).trans ((HMO7.out.block gt (show gt < w6.heap.size by omega) (fun e => hggt e.symm)).trans (HMO6.out.block gt l0 (fun e => hggt e.symm)))
                        refine (HTA.out.keep hbt).congr (fun j _ => ?_)
                        rw [HTH.out]
                        by_cases e : j = x
                        · simp [e]
                        · rw [if_neg e, beq_eq_false_iff_ne.2 e, Bool.or_false]
                    case measure => simp only [RowKit.intOf]; omega
              · have hki : ¬ ((k : Int) < m) := by omega
                obtain rfl : m = k := by omega
                have HDR : Hid (RBox wr p gt (.slice fa fl fc) g len cap base n put got) := hid ((hmo.block p HDW.out.lt hnp).trans HDW.out)
                have HBXR : Hid (wr.heap[w.heap.size]? = some (.cells #[.int .i64 k0, .slice (some ⟨vb, 0, none⟩) m vc] 127 (0, 0))) := hid ((hmo.block w.heap.size (Array.getElem?_eq_some_iff.1 HBXW.out).1 hnB).trans HBXW.out)
                have hszr : w.heap.size ≤ wr.heap.size := Nat.le_trans HBEW.out.size hmo.size
                have HMA : Hid (Mods (fun b => b = p ∨ b = gt ∨ b = g ∨ (Value.slice fa fl fc).ownBlock = some b) w wr) := hid ((Mods.of_below HBEW.out).trans hmo (fun b e => .inl (.inr (e.elim .inl (fun e => .inr (.inl e))))))
                have HFr : Hid (FRow wr (.slice fa fl fc) F) := hid (owns_keep HF.out (fun b hb => (hmo.block b (Nat.lt_of_lt_of_le (HVFB.out b hb).1 HBEW.out.size) (by have := HVFB.out b hb; omega)).trans (HBEW.out.block b (HVFB.out b hb).1)))
                have HOR : Hid (wr.ownsRow (w.heap.size + 1) 3 1 (.slice (some ⟨vb, 0, none⟩) m vc) m (nums.map encN)) := hid (owns_keep HOWW.out (fun b hb => hmo.block b (owns_lt HOWW.out hb).1 (by have := (owns_lt HOWW.out hb).2; omega)))
                obtain ⟨r0, r1, rz0, rz1⟩ := box90 HBXR.out
                obtain ⟨d0r, d1r, d2r, d3r, d4r, d5r, d6r, fz4r, fz5r, fz6r⟩ := HDR.out.cells
                have hBlt : w.heap.size < wr.heap.size := (Array.getElem?_eq_some_iff.1 HBXR.out).1
                have hbe1 : Below wr.heap.size wr (wr.drew.alloc (.cells #[.int .i64 (k0 : Int), .slice (some ⟨vb, 0, none⟩) m vc] 127)) := ((Below.refl wr.heap.size wr).drew).alloc (Nat.le_refl _) _
                obtain ⟨v', w', hrun, how, hgr, hob⟩ := append_ch_run (wr.drew.alloc (.cells #[.int .i64 (k0 : Int), .slice (some ⟨vb, 0, none⟩) m vc] 127)) 0 (.slice fa fl fc) F (owns_below HFr.out hbe1) wr.heap.size 1 (k0, .slice (some ⟨vb, 0, none⟩) m vc) (new_cell wr.drew _ _ _ 0 (by simp)) (new_cell wr.drew _ _ _ 1 (by simp)) rfl (by rw [HFL.out]; omega) (Nat.zero_le _) 109
                obtain ⟨va', vc', hv'⟩ := owns_slice how
                subst hv'
                have e0 : (F ++ [(k0, Value.slice (some ⟨vb, 0, none⟩) m vc)]).length = fl + 1 := by rw [List.length_append, HFL.out]; rfl
                rw [e0] at hrun
                have how1 := how
                rw [e0] at how hob
                have hm1 : Mods (fun b => (Value.slice fa fl fc).ownBlock = some b) wr w' := (Mods.of_below hbe1).grown hgr (fun b hb => .inl hb)
                have hpw' : w'.heap[p]? = wr.heap[p]? := hm1.block p HDR.out.lt (fun e => (HVFB.out p e).2.1 rfl)
                have hD2 : RBox w' p gt (.slice fa fl fc) g len cap base n put got := hpw'.trans HDR.out
                have hB2 : w'.heap[w.heap.size]? = some (.cells #[.int .i64 k0, .slice (some ⟨vb, 0, none⟩) m vc] 127 (0, 0)) := (hm1.block w.heap.size hBlt (fun e => by have := (HVFB.out _ e).1; omega)).trans HBXR.out
                have hmS : Mods (fun b => b = p) w' (w'.setCell ⟨p, 6, none⟩ (.slice va' (fl + 1) vc')) := (Mods.refl (fun b => b = p) w').setCell p 6 _ rfl
                have hB3 : (w'.setCell ⟨p, 6, none⟩ (.slice va' (fl + 1) vc')).heap[w.heap.size]? = some (.cells #[.int .i64 k0, .slice (some ⟨vb, 0, none⟩) m vc] 127 (0, 0)) := (hmS.block w.heap.size (by have := hm1.size; omega) (by omega)).trans hB2
                obtain ⟨y0, y1, _, _⟩ := box90 hB2
                obtain ⟨x0, x1, _, _⟩ := box90 hB3
                have s1a := cell_later hbe1 r0
                have s1b := cell_later hbe1 r1
                have s1c := cell_later hbe1 d6r
                obtain ⟨_, _, _, _, _, _, g6, _, _, gz6⟩ := hD2.cells
                have hD3 : RBox (w'.setCell ⟨p, 6, none⟩ (.slice va' (fl + 1) vc')) p gt (.slice va' (fl + 1) vc') g len cap base n put got := setc hD2 6 _
                have HD3 := hid hD3
                have HB3 := hid hB3
                have HM3 : Hid (Mem (w'.setCell ⟨p, 6, none⟩ (.slice va' (fl + 1) vc')) g N (layTo f base nums bufs m)) := hid ((HME.out.mods hm1 (fun e => (HVFB.out g e).2.2.2 rfl)).mods hmS hgp)
                have HMA3 : Hid (Mods (fun b => b = p ∨ b = gt ∨ b = g ∨ (Value.slice fa fl fc).ownBlock = some b) w (w'.setCell ⟨p, 6, none⟩ (.slice va' (fl + 1) vc'))) := hid ((HMA.out.trans hm1 (fun b e => .inl (.inr (.inr (.inr e))))).trans hmS (fun b e => .inl (.inl e)))
                have HT3 : Hid (Tk (w'.setCell ⟨p, 6, none⟩ (.slice va' (fl + 1) vc')) gt n (fun j => t j || nums.contains j)) := hid (((htk.keep (hm1.block gt htk.lt (fun e => (HVFB.out gt e).2.2.1 rfl))).keep (hmS.block gt (by have := htk.lt; have := hm1.size; omega) hgtp)).congr (fun j _ => by rw [List.take_of_length_le (by rw [HLM.out]; exact Nat.le_refl _)]))
                have HFR3 : Hid (FRow (w'.setCell ⟨p, 6, none⟩ (.slice va' (fl + 1) vc')) (.slice va' (fl + 1) vc') (F ++ [(k0, Value.slice (some ⟨vb, 0, none⟩) m vc)])) := hid (by
                  rw [e0] at how1
                  have h5 : w'.ownsRow 0 127 2 (.slice va' (fl + 1) vc') (F ++ [(k0, Value.slice (some ⟨vb, 0, none⟩) m vc)]).length (cellsF (F ++ [(k0, Value.slice (some ⟨vb, 0, none⟩) m vc)])) := by rw [e0]; exact how1
                  refine owns_keep h5 (fun b hb => hmS.block b (owns_lt h5 hb).1 (fun e => ?_))
                  rcases hob with h6 | h6
                  · rw [hb] at h6; exact (HVFB.out b h6.symm).2.1 e
                  · rw [hb] at h6
                    simp only [Option.some.injEq] at h6
                    have h7 := hbe1.size
                    omega)
                have HOV : Hid (∀ b, (Value.slice va' (fl + 1) vc').ownBlock = some b → (Value.slice fa fl fc).ownBlock = some b ∨ w.heap.size ≤ b) := hid (fun b hb => by
                  rcases hob with h6 | h6
                  · rw [hb] at h6; exact .inl h6.symm
                  · rw [hb] at h6
                    simp only [Option.some.injEq] at h6
                    have h7 := hbe1.size
                    exact .inr (by omega))
                have HIR3 : Hid (IRow (w'.setCell ⟨p, 6, none⟩ (.slice va' (fl + 1) vc')) (.slice (some ⟨vb, 0, none⟩) m vc) nums) := hid (by
                  have h5 : w'.ownsRow (w.heap.size + 1) 3 1 (.slice (some ⟨vb, 0, none⟩) m vc) m (nums.map encN) := owns_keep HOR.out (fun b hb => hm1.block b (owns_lt HOR.out hb).1 (fun e => by have := (HVFB.out b e).1; have := (owns_lt HOR.out hb).2; omega))
                  have h6 : (w'.setCell ⟨p, 6, none⟩ (.slice va' (fl + 1) vc')).ownsRow (w.heap.size + 1) 3 1 (.slice (some ⟨vb, 0, none⟩) m vc) m (nums.map encN) := owns_keep h5 (fun b hb => hmS.block b (owns_lt h5 hb).1 (by have := (owns_lt h5 hb).2; omega))
                  unfold IRow
                  rw [HLM.out]
                  exact owns_mono h6 (Nat.zero_le _))
                have s0a : wr.drew.cell? ⟨w.heap.size, 0, none⟩ = some (.int .i64 (k0 : Int)) := r0
                have s0b : wr.drew.cell? ⟨w.heap.size, 1, none⟩ = some (.slice (some ⟨vb, 0, none⟩) m vc) := r1
                have s0c : wr.drew.cell? ⟨p, 6, none⟩ = some (.slice fa fl fc) := d6r
                have HALL := hid (And.intro s0a s0b)
                have s1d : (wr.alloc (.cells #[.int .i64 (k0 : Int), .slice (some ⟨vb, 0, none⟩) m vc] 127)).cell? ⟨p, 6, none⟩ = some (.slice fa fl fc) := s1c
                clear hmo hmem htk hD2 hB2 hmS hB3 hD3 hm1 hgr how how1 hob hpw' hbe1
                clear d0k d1k d3k b1k r0 r1 rz0 rz1 d0r d1r d2r d3r d4r d5r d6r fz4r fz5r fz6r d0 d1 d2 d3 d4 d5 d6 fz4 fz5 fz6 b0 b1 bz0 bz1
                go_wp2
                refine wp_region_held_drew (S := (fun w' => w'.cell? ⟨w.heap.size, 0, none⟩ = some (.int .i64 (k0 : Int)) ∧ w'.cell? ⟨w.heap.size, 1, none⟩ = some (.slice (some ⟨vb, 0, none⟩) m vc))) (by kernel_rfl) HALL.out (fun hS => ?_)
                refine any_take 0 169 (.pointer (some ⟨p, 0, none⟩)) rfl rfl (by kernel_rfl) (by kernel_rfl) (by kernel_rfl) (fun _ _ _ h => h) (Or.inl ⟨by rfl, ?_⟩) hS ?_
                · rintro w' ⟨hw1, hw2⟩
                  go_simp
                simp only [List.setIfInBounds_toArray, List.set_cons_zero, List.set_cons_succ]
                refine any_take 1 170 (.pointer (some ⟨p, 0, none⟩)) rfl rfl (by kernel_rfl) (by kernel_rfl) (by kernel_rfl) (fun _ _ _ h => h) (Or.inl ⟨by rfl, ?_⟩) hS ?_
                · rintro w' ⟨hw1, hw2⟩
                  go_simp
                simp only [List.setIfInBounds_toArray, List.set_cons_zero, List.set_cons_succ]
                refine any_take 2 171 (.pointer (some ⟨p, 0, none⟩)) rfl rfl (by kernel_rfl) (by kernel_rfl) (by kernel_rfl) (fun _ _ _ h => h) (Or.inl ⟨by rfl, ?_⟩) hS ?_
                · rintro w' ⟨hw1, hw2⟩
                  go_simp
                simp only [List.setIfInBounds_toArray, List.set_cons_zero, List.set_cons_succ]
                refine any_take 3 172 (.pointer (some ⟨p, 6, none⟩)) rfl rfl (by kernel_rfl) (by kernel_rfl) (by kernel_rfl) (fun _ _ _ h => h) (Or.inl ⟨by rfl, ?_⟩) hS ?_
                · rintro w' ⟨hw1, hw2⟩
                  go_simp
                simp only [List.setIfInBounds_toArray, List.set_cons_zero, List.set_cons_succ]
                refine any_take 5 174 (.agg #[.int .i64 (k0 : Int), .slice (some ⟨vb, 0, none⟩) m vc]) rfl rfl (by kernel_rfl) (by kernel_rfl) (by kernel_rfl) (fun _ _ _ h => h) (Or.inl ⟨by rfl, ?_⟩) hS ?_
                · rintro w' ⟨hw1, hw2⟩
                  go_simp
                simp only [List.setIfInBounds_toArray, List.set_cons_zero, List.set_cons_succ]
                refine any_two 4 6 (by kernel_rfl) ?_ ?_
                · refine op_value' 173 (v := .slice fa fl fc) (w' := wr.drew) rfl (by rfl) rfl (by go_simp) ⟨⟨s0a, s0b⟩, ?_⟩
                  simp only [List.setIfInBounds_toArray, List.set_cons_zero, List.set_cons_succ]
                  refine any_one 6 (by kernel_rfl) ?_
                  refine op_value' 175 (v := .slice (some ⟨wr.heap.size, 0, none⟩) 1 1) (w' := (wr.drew.alloc (.cells #[.int .i64 (k0 : Int), .slice (some ⟨vb, 0, none⟩) m vc] 127))) rfl (by rfl) rfl (by go_simp) ⟨⟨s1a, s1b⟩, ?_⟩
                  simp only [List.setIfInBounds_toArray, List.set_cons_zero, List.set_cons_succ]
                  refine any_one 7 (by kernel_rfl) ?_
                  refine op_append' 176 (v := .slice fa fl fc) (y := .slice (some ⟨wr.heap.size, 0, none⟩) 1 1) (v' := .slice va' (fl + 1) vc') (w' := w') rfl (by rfl) rfl (.tmp 173) (.tmp 175) 109 rfl rfl rfl 109 rfl hrun ⟨⟨y0, y1⟩, ?_⟩
                  simp only [List.setIfInBounds_toArray, List.set_cons_zero, List.set_cons_succ]
                  refine any_one 8 (by kernel_rfl) ?_
                  refine op_value' 177 (v := .pointer (some ⟨p, 0, none⟩)) (w' := w') rfl (by rfl) rfl (by go_simp) ⟨⟨y0, y1⟩, ?_⟩
                  simp only [List.setIfInBounds_toArray, List.set_cons_zero, List.set_cons_succ]
                  refine any_one 9 (by kernel_rfl) ?_
                  refine op_value' 178 (v := .pointer (some ⟨p, 6, none⟩)) (w' := w') rfl (by rfl) rfl (by go_simp) ⟨⟨y0, y1⟩, ?_⟩
                  simp only [List.setIfInBounds_toArray, List.set_cons_zero, List.set_cons_succ]
                  refine any_one 10 (by kernel_rfl) ?_
                  refine op_skip (w' := (w'.setCell ⟨p, 6, none⟩ (.slice va' (fl + 1) vc'))) rfl (by rfl) (by go_simp) ⟨⟨x0, x1⟩, ?_⟩
                  refine wpAnyH_done (by kernel_rfl) ?_ _
                  clear s0a s0b s0c s1a s1b s1c s1d y0 y1 x0 x1 g6 gz6 hrun HALL hS
                  generalize w'.setCell ⟨p, 6, none⟩ (.slice va' (fl + 1) vc') = w3 at *
                  obtain ⟨d0, d1, d2, d3, d4, d5, d6, fz4, fz5, fz6⟩ := HD3.out.cells
                  have hn0 : ¬ ((n : Int) = 0) := by omega
                  have hn0b : ((n : Int) == 0) = false := by simp; omega
                  have hn0c : (n : Int) ≠ 0 := by omega
                  have hn0d : ¬ (n = 0) := by omega
                  have hmlt : put % n < n := Nat.mod_lt _ (by omega)
                  have e1 : IntKind.i64.wrap (16 * (n : Int)) = 16 * (n : Int) := IntWalk.i64_in _ (by omega)
                  have e2 : IntKind.i64.wrap ((base : Int) + 16 * n) = ((base + 16 * n : Nat) : Int) := by rw [IntWalk.i64_in _ (by omega)]; omega
                  have e3 : IntKind.i64.wrap (((base + 16 * n : Nat) : Int) + 2) = ((base + 16 * n + 2 : Nat) : Int) := by rw [IntWalk.i64_in _ (by omega)]; omega
                  have e4 : Int.tmod (put : Int) (n : Int) = ((put % n : Nat) : Int) := (Int.ofNat_tmod put n).symm
                  have e5 : IntKind.i64.wrap (2 * ((put % n : Nat) : Int)) = 2 * ((put % n : Nat) : Int) := IntWalk.i64_in _ (by omega)
                  have e6 : IntKind.i64.wrap (((base + 16 * n : Nat) : Int) + 4) = ((base + 16 * n : Nat) : Int) + 4 := IntWalk.i64_in _ (by omega)
                  have e7 : IntKind.i64.wrap (((base + 16 * n : Nat) : Int) + 4 + 2 * ((put % n : Nat) : Int)) = ((base + 16 * n + (4 + put % n * 2) : Nat) : Int) := by rw [IntWalk.i64_in _ (by omega)]; omega
                  have e10 : IntKind.i64.wrap ((put : Int) + 1) = (put : Int) + 1 := IntWalk.i64_in _ (by omega)
                  have e11 : Int.tmod ((put : Int) + 1) 65536 = (((put + 1) % 65536 : Nat) : Int) := by rw [show ((put : Int) + 1) = ((put + 1 : Nat) : Int) by omega]; exact (Int.ofNat_tmod (put + 1) 65536).symm
                  have hp1 : (put + 1) % 65536 < 65536 := Nat.mod_lt _ (by omega)
                  have l1 : base + 16 * n + (4 + put % n * 2) + 2 ≤ len := by omega
                  have l2 : base + 16 * n + 2 + 2 ≤ len := by omega
                  generalize hA1 : base + 16 * n + (4 + put % n * 2) = at1 at *
                  generalize hA2 : base + 16 * n + 2 = at2 at *
                  generalize hRG : base + 16 * n = ring at *
                  generalize hPM : put % n = pm at *
                  have HRG := hid hRG
                  have HPM := hid hPM
                  clear hRG hPM
                  generalize hP1 : (put + 1) % 65536 = put1 at *
                  have HA1 := hid hA1
                  have HA2 := hid hA2
                  have HP1 := hid hP1
                  clear hA1 hA2 hP1
                  go_wp2
                  go_quiet (fail)
                  obtain ⟨w4, hw4⟩ : ∃ w4, w4 = w3.drewN nq := ⟨_, rfl⟩
                  rw [← hw4]
                  have hb4 : Below w3.heap.size w3 w4 := by rw [hw4]; exact below_drewN (Below.refl _ _) _
                  clear hw4
                  have HB4 := hid hb4
                  replace d0 := cell_later hb4 d0
                  replace d2 := cell_later hb4 d2
                  replace d4 := cell_later hb4 d4
                  have t0 := cell_later hb4 (box90 HB3.out).1
                  have hc5 := hid (refset_any w4.drew g N len cap at1 2 _ (k0 : Int) ((HM3.out.below hb4).below (Below.refl w4.heap.size w4).drew) hle hbig l1 (by omega) (by omega) (by omega))
                  clear hb4 d1 d3 d5 d6 fz4 fz5 fz6
                  go_wp2
                  go_region_held3 (fun w' => w'.cell? ⟨p, 0, none⟩ = some (.slice (some ⟨g, 0, none⟩) len cap) ∧ w'.cell? ⟨p, 2, none⟩ = some (.int .i64 n) ∧ w'.cell? ⟨p, 4, none⟩ = some (.int .i64 put) ∧ w'.cell? ⟨w.heap.size, 0, none⟩ = some (.int .i64 k0)) ((first | exact ⟨d0, d2, d4, t0⟩ | exact HS5.out))
                    ((go_at_call 62; refine hc5.out.mono ?_; rintro e w5 ⟨rfl, hm5, hmo5⟩; have HM5 := hid hm5; have HMO5 := hid hmo5; have HS5 := hid (And.intro (hmo5.cell (w := w4.drew) d0 (fun e => hgp e.symm)) (And.intro (hmo5.cell (w := w4.drew) d2 (fun e => hgp e.symm)) (And.intro (hmo5.cell (w := w4.drew) d4 (fun e => hgp e.symm)) (hmo5.cell (w := w4.drew) t0 (by omega))))); clear hm5 hmo5))
                  have hk5 : ∀ b, b < w3.heap.size → b ≠ g → w5.heap[b]? = w3.heap[b]? := fun b hb hne => (HMO5.out.block b (show b < w4.heap.size by have := HB4.out.size; omega) hne).trans (HB4.out.block b hb)
                  have HK5 := hid hk5
                  have HD5 : Hid (RBox w5 p gt (.slice va' (fl + 1) vc') g len cap base n put got) := hid ((hk5 p HD3.out.lt (fun e => hgp e.symm)).trans HD3.out)
                  have HMA5 := hid ((HMA3.out.below HB4.out).drew.trans HMO5.out (fun b e => .inl (.inr (.inr (.inl e)))))
                  obtain ⟨d0, d1, d2, d3, d4, d5, d6, fz4, fz5, fz6⟩ := HD5.out.cells
                  clear HS5 hc5 hk5 t0
                  go_wp2
                  have hD6 : RBox (w5.setCell ⟨p, 4, none⟩ (.int .i64 put1)) p gt (.slice va' (fl + 1) vc') g len cap base n put1 got := setc HD5.out 4 _
                  have hmS : Mods (fun b => b = p) w5 (w5.setCell ⟨p, 4, none⟩ (.int .i64 put1)) := (Mods.refl (fun b => b = p) w5).setCell p 4 _ rfl
                  have HM6 := hid (HM5.out.mods hmS hgp)
                  have HMA6 := hid (HMA5.out.trans hmS (fun b e => .inl (.inl e)))
                  have HK6 : Hid (∀ b, b < w3.heap.size → b ≠ g → b ≠ p → (w5.setCell ⟨p, 4, none⟩ (.int .i64 put1)).heap[b]? = w3.heap[b]?) := hid (fun b hb h1 h2 => (hmS.block b (by have h1 := HMO5.out.size; have h2 := HB4.out.size; have h3 : w4.heap.size ≤ w5.heap.size := h1; omega) h2).trans (HK5.out b hb h1))
                  have HD6 := hid hD6
                  clear d0 d1 d2 d3 d4 d5 d6 fz4 fz5 fz6
                  have hz6 : w5.heap.size ≤ (w5.setCell ⟨p, 4, none⟩ (.int .i64 put1)).heap.size := hmS.size
                  have hz5 : w3.heap.size ≤ w5.heap.size := by have h1 := HMO5.out.size; have h2 := HB4.out.size; have h3 : w4.heap.size ≤ w5.heap.size := h1; omega
                  clear hmS hD6
                  generalize w5.setCell ⟨p, 4, none⟩ (.int .i64 put1) = w6 at *
                  obtain ⟨d0, d1, d2, d3, d4, d5, d6, fz4, fz5, fz6⟩ := HD6.out.cells
                  have hc7 := hid (refset_any w6.drew g N len cap at2 2 _ (put1 : Int) (HM6.out.below (Below.refl w6.heap.size w6).drew) hle hbig l2 (by omega) (by omega) (by omega))
                  have t6 := (box90 ((HK6.out w.heap.size (Array.getElem?_eq_some_iff.1 HB3.out).1 (by omega) (by omega)).trans HB3.out)).1
                  go_region_held3 (fun w' => w'.cell? ⟨p, 0, none⟩ = some (.slice (some ⟨g, 0, none⟩) len cap) ∧ w'.cell? ⟨p, 4, none⟩ = some (.int .i64 put1)) ((first | exact ⟨d0, d4⟩ | exact HS7.out))
                    ((go_at_call 62; refine hc7.out.mono ?_; rintro e w7 ⟨rfl, hm7, hmo7⟩; have HM7 := hid hm7; have HMO7 := hid hmo7; have HS7 := hid (And.intro (hmo7.cell (w := w6.drew) d0 (fun e => hgp e.symm)) (hmo7.cell (w := w6.drew) d4 (fun e => hgp e.symm))); clear hm7 hmo7))
                  have t7 := HMO7.out.cell (w := w6.drew) t6 (by omega)
                  go_wp2
                  go_ret2
                  rw [HKE.out]
                  have hk7 : ∀ b, b < w3.heap.size → b ≠ g → b ≠ p → w7.heap[b]? = w3.heap[b]? := fun b hb h1 h2 => (HMO7.out.block b (show b < w6.heap.size by omega) h1).trans (HK6.out b hb h1 h2)
                  refine ⟨rfl, HMA6.out.drew.trans HMO7.out (fun b e => .inl (.inr (.inr (.inl e)))), ?_, .slice va' (fl + 1) vc', .slice (some ⟨vb, 0, none⟩) m vc, ?_, HT3.out.keep (hk7 gt HT3.out.lt (fun e => hggt e.symm) hgtp), ?_, ?_, ?_, HOV.out⟩
                  · rw [HRG.out, HPM.out, HA1.out, HA2.out, HP1.out]
                    exact HM7.out
                  · rw [HP1.out]
                    exact (HMO7.out.block p (show p < w6.heap.size from HD6.out.lt) (fun e => hgp e.symm)).trans HD6.out
                  · refine owns_keep HFR3.out (fun b hb => hk7 b (owns_lt HFR3.out hb).1 ?_ ?_)
                    · intro e
                      rcases HOV.out b hb with h | h
                      · exact (HVFB.out b h).2.2.2 e
                      · omega
                    · intro e
                      rcases HOV.out b hb with h | h
                      · exact (HVFB.out b h).2.1 e
                      · omega
                  · refine HIR3.out.keep (fun b hb => ?_)
                    have e : vb = b := by simpa [Value.ownBlock] using hb
                    subst e
                    exact hk7 vb (HIR3.out.lt hb) (by omega) (by omega)
                  · intro b hb
                    have e : vb = b := by simpa [Value.ownBlock] using hb
                    omega
                · refine op_value' 175 (v := .slice (some ⟨wr.heap.size, 0, none⟩) 1 1) (w' := (wr.drew.alloc (.cells #[.int .i64 (k0 : Int), .slice (some ⟨vb, 0, none⟩) m vc] 127))) rfl (by rfl) rfl (by go_simp) ⟨⟨s1a, s1b⟩, ?_⟩
                  simp only [List.setIfInBounds_toArray, List.set_cons_zero, List.set_cons_succ]
                  refine any_one 4 (by kernel_rfl) ?_
                  refine op_value' 173 (v := .slice fa fl fc) (w' := (wr.drew.alloc (.cells #[.int .i64 (k0 : Int), .slice (some ⟨vb, 0, none⟩) m vc] 127))) rfl (by rfl) rfl (by go_simp) ⟨⟨s1a, s1b⟩, ?_⟩
                  simp only [List.setIfInBounds_toArray, List.set_cons_zero, List.set_cons_succ]
                  refine any_one 7 (by kernel_rfl) ?_
                  refine op_append' 176 (v := .slice fa fl fc) (y := .slice (some ⟨wr.heap.size, 0, none⟩) 1 1) (v' := .slice va' (fl + 1) vc') (w' := w') rfl (by rfl) rfl (.tmp 173) (.tmp 175) 109 rfl rfl rfl 109 rfl hrun ⟨⟨y0, y1⟩, ?_⟩
                  simp only [List.setIfInBounds_toArray, List.set_cons_zero, List.set_cons_succ]
                  refine any_one 8 (by kernel_rfl) ?_
                  refine op_value' 177 (v := .pointer (some ⟨p, 0, none⟩)) (w' := w') rfl (by rfl) rfl (by go_simp) ⟨⟨y0, y1⟩, ?_⟩
                  simp only [List.setIfInBounds_toArray, List.set_cons_zero, List.set_cons_succ]
                  refine any_one 9 (by kernel_rfl) ?_
                  refine op_value' 178 (v := .pointer (some ⟨p, 6, none⟩)) (w' := w') rfl (by rfl) rfl (by go_simp) ⟨⟨y0, y1⟩, ?_⟩
                  simp only [List.setIfInBounds_toArray, List.set_cons_zero, List.set_cons_succ]
                  refine any_one 10 (by kernel_rfl) ?_
                  refine op_skip (w' := (w'.setCell ⟨p, 6, none⟩ (.slice va' (fl + 1) vc'))) rfl (by rfl) (by go_simp) ⟨⟨x0, x1⟩, ?_⟩
                  refine wpAnyH_done (by kernel_rfl) ?_ _
                  clear s0a s0b s0c s1a s1b s1c s1d y0 y1 x0 x1 g6 gz6 hrun HALL hS
                  generalize w'.setCell ⟨p, 6, none⟩ (.slice va' (fl + 1) vc') = w3 at *
                  obtain ⟨d0, d1, d2, d3, d4, d5, d6, fz4, fz5, fz6⟩ := HD3.out.cells
                  have hn0 : ¬ ((n : Int) = 0) := by omega
                  have hn0b : ((n : Int) == 0) = false := by simp; omega
                  have hn0c : (n : Int) ≠ 0 := by omega
                  have hn0d : ¬ (n = 0) := by omega
                  have hmlt : put % n < n := Nat.mod_lt _ (by omega)
                  have e1 : IntKind.i64.wrap (16 * (n : Int)) = 16 * (n : Int) := IntWalk.i64_in _ (by omega)
                  have e2 : IntKind.i64.wrap ((base : Int) + 16 * n) = ((base + 16 * n : Nat) : Int) := by rw [IntWalk.i64_in _ (by omega)]; omega
                  have e3 : IntKind.i64.wrap (((base + 16 * n : Nat) : Int) + 2) = ((base + 16 * n + 2 : Nat) : Int) := by rw [IntWalk.i64_in _ (by omega)]; omega
                  have e4 : Int.tmod (put : Int) (n : Int) = ((put % n : Nat) : Int) := (Int.ofNat_tmod put n).symm
                  have e5 : IntKind.i64.wrap (2 * ((put % n : Nat) : Int)) = 2 * ((put % n : Nat) : Int) := IntWalk.i64_in _ (by omega)
                  have e6 : IntKind.i64.wrap (((base + 16 * n : Nat) : Int) + 4) = ((base + 16 * n : Nat) : Int) + 4 := IntWalk.i64_in _ (by omega)
                  have e7 : IntKind.i64.wrap (((base + 16 * n : Nat) : Int) + 4 + 2 * ((put % n : Nat) : Int)) = ((base + 16 * n + (4 + put % n * 2) : Nat) : Int) := by rw [IntWalk.i64_in _ (by omega)]; omega
                  have e10 : IntKind.i64.wrap ((put : Int) + 1) = (put : Int) + 1 := IntWalk.i64_in _ (by omega)
                  have e11 : Int.tmod ((put : Int) + 1) 65536 = (((put + 1) % 65536 : Nat) : Int) := by rw [show ((put : Int) + 1) = ((put + 1 : Nat) : Int) by omega]; exact (Int.ofNat_tmod (put + 1) 65536).symm
                  have hp1 : (put + 1) % 65536 < 65536 := Nat.mod_lt _ (by omega)
                  have l1 : base + 16 * n + (4 + put % n * 2) + 2 ≤ len := by omega
                  have l2 : base + 16 * n + 2 + 2 ≤ len := by omega
                  generalize hA1 : base + 16 * n + (4 + put % n * 2) = at1 at *
                  generalize hA2 : base + 16 * n + 2 = at2 at *
                  generalize hRG : base + 16 * n = ring at *
                  generalize hPM : put % n = pm at *
                  have HRG := hid hRG
                  have HPM := hid hPM
                  clear hRG hPM
                  generalize hP1 : (put + 1) % 65536 = put1 at *
                  have HA1 := hid hA1
                  have HA2 := hid hA2
                  have HP1 := hid hP1
                  clear hA1 hA2 hP1
                  go_wp2
                  go_quiet (fail)
                  obtain ⟨w4, hw4⟩ : ∃ w4, w4 = w3.drewN nq := ⟨_, rfl⟩
                  rw [← hw4]
                  have hb4 : Below w3.heap.size w3 w4 := by rw [hw4]; exact below_drewN (Below.refl _ _) _
                  clear hw4
                  have HB4 := hid hb4
                  replace d0 := cell_later hb4 d0
                  replace d2 := cell_later hb4 d2
                  replace d4 := cell_later hb4 d4
                  have t0 := cell_later hb4 (box90 HB3.out).1
                  have hc5 := hid (refset_any w4.drew g N len cap at1 2 _ (k0 : Int) ((HM3.out.below hb4).below (Below.refl w4.heap.size w4).drew) hle hbig l1 (by omega) (by omega) (by omega))
                  clear hb4 d1 d3 d5 d6 fz4 fz5 fz6
                  go_wp2
                  go_region_held3 (fun w' => w'.cell? ⟨p, 0, none⟩ = some (.slice (some ⟨g, 0, none⟩) len cap) ∧ w'.cell? ⟨p, 2, none⟩ = some (.int .i64 n) ∧ w'.cell? ⟨p, 4, none⟩ = some (.int .i64 put) ∧ w'.cell? ⟨w.heap.size, 0, none⟩ = some (.int .i64 k0)) ((first | exact ⟨d0, d2, d4, t0⟩ | exact HS5.out))
                    ((go_at_call 62; refine hc5.out.mono ?_; rintro e w5 ⟨rfl, hm5, hmo5⟩; have HM5 := hid hm5; have HMO5 := hid hmo5; have HS5 := hid (And.intro (hmo5.cell (w := w4.drew) d0 (fun e => hgp e.symm)) (And.intro (hmo5.cell (w := w4.drew) d2 (fun e => hgp e.symm)) (And.intro (hmo5.cell (w := w4.drew) d4 (fun e => hgp e.symm)) (hmo5.cell (w := w4.drew) t0 (by omega))))); clear hm5 hmo5))
                  have hk5 : ∀ b, b < w3.heap.size → b ≠ g → w5.heap[b]? = w3.heap[b]? := fun b hb hne => (HMO5.out.block b (show b < w4.heap.size by have := HB4.out.size; omega) hne).trans (HB4.out.block b hb)
                  have HK5 := hid hk5
                  have HD5 : Hid (RBox w5 p gt (.slice va' (fl + 1) vc') g len cap base n put got) := hid ((hk5 p HD3.out.lt (fun e => hgp e.symm)).trans HD3.out)
                  have HMA5 := hid ((HMA3.out.below HB4.out).drew.trans HMO5.out (fun b e => .inl (.inr (.inr (.inl e)))))
                  obtain ⟨d0, d1, d2, d3, d4, d5, d6, fz4, fz5, fz6⟩ := HD5.out.cells
                  clear HS5 hc5 hk5 t0
                  go_wp2
                  have hD6 : RBox (w5.setCell ⟨p, 4, none⟩ (.int .i64 put1)) p gt (.slice va' (fl + 1) vc') g len cap base n put1 got := setc HD5.out 4 _
                  have hmS : Mods (fun b => b = p) w5 (w5.setCell ⟨p, 4, none⟩ (.int .i64 put1)) := (Mods.refl (fun b => b = p) w5).setCell p 4 _ rfl
                  have HM6 := hid (HM5.out.mods hmS hgp)
                  have HMA6 := hid (HMA5.out.trans hmS (fun b e => .inl (.inl e)))
                  have HK6 : Hid (∀ b, b < w3.heap.size → b ≠ g → b ≠ p → (w5.setCell ⟨p, 4, none⟩ (.int .i64 put1)).heap[b]? = w3.heap[b]?) := hid (fun b hb h1 h2 => (hmS.block b (by have h1 := HMO5.out.size; have h2 := HB4.out.size; have h3 : w4.heap.size ≤ w5.heap.size := h1; omega) h2).trans (HK5.out b hb h1))
                  have HD6 := hid hD6
                  clear d0 d1 d2 d3 d4 d5 d6 fz4 fz5 fz6
                  have hz6 : w5.heap.size ≤ (w5.setCell ⟨p, 4, none⟩ (.int .i64 put1)).heap.size := hmS.size
                  have hz5 : w3.heap.size ≤ w5.heap.size := by have h1 := HMO5.out.size; have h2 := HB4.out.size; have h3 : w4.heap.size ≤ w5.heap.size := h1; omega
                  clear hmS hD6
                  generalize w5.setCell ⟨p, 4, none⟩ (.int .i64 put1) = w6 at *
                  obtain ⟨d0, d1, d2, d3, d4, d5, d6, fz4, fz5, fz6⟩ := HD6.out.cells
                  have hc7 := hid (refset_any w6.drew g N len cap at2 2 _ (put1 : Int) (HM6.out.below (Below.refl w6.heap.size w6).drew) hle hbig l2 (by omega) (by omega) (by omega))
                  have t6 := (box90 ((HK6.out w.heap.size (Array.getElem?_eq_some_iff.1 HB3.out).1 (by omega) (by omega)).trans HB3.out)).1
                  go_region_held3 (fun w' => w'.cell? ⟨p, 0, none⟩ = some (.slice (some ⟨g, 0, none⟩) len cap) ∧ w'.cell? ⟨p, 4, none⟩ = some (.int .i64 put1)) ((first | exact ⟨d0, d4⟩ | exact HS7.out))
                    ((go_at_call 62; refine hc7.out.mono ?_; rintro e w7 ⟨rfl, hm7, hmo7⟩; have HM7 := hid hm7; have HMO7 := hid hmo7; have HS7 := hid (And.intro (hmo7.cell (w := w6.drew) d0 (fun e => hgp e.symm)) (hmo7.cell (w := w6.drew) d4 (fun e => hgp e.symm))); clear hm7 hmo7))
                  have t7 := HMO7.out.cell (w := w6.drew) t6 (by omega)
                  go_wp2
                  go_ret2
                  rw [HKE.out]
                  have hk7 : ∀ b, b < w3.heap.size → b ≠ g → b ≠ p → w7.heap[b]? = w3.heap[b]? := fun b hb h1 h2 => (HMO7.out.block b (show b < w6.heap.size by omega) h1).trans (HK6.out b hb h1 h2)
                  refine ⟨rfl, HMA6.out.drew.trans HMO7.out (fun b e => .inl (.inr (.inr (.inl e)))), ?_, .slice va' (fl + 1) vc', .slice (some ⟨vb, 0, none⟩) m vc, ?_, HT3.out.keep (hk7 gt HT3.out.lt (fun e => hggt e.symm) hgtp), ?_, ?_, ?_, HOV.out⟩
                  · rw [HRG.out, HPM.out, HA1.out, HA2.out, HP1.out]
                    exact HM7.out
                  · rw [HP1.out]
                    exact (HMO7.out.block p (show p < w6.heap.size from HD6.out.lt) (fun e => hgp e.symm)).trans HD6.out
                  · refine owns_keep HFR3.out (fun b hb => hk7 b (owns_lt HFR3.out hb).1 ?_ ?_)
                    · intro e
                      rcases HOV.out b hb with h | h
                      · exact (HVFB.out b h).2.2.2 e
                      · omega
                    · intro e
                      rcases HOV.out b hb with h | h
                      · exact (HVFB.out b h).2.1 e
                      · omega
                  · refine HIR3.out.keep (fun b hb => ?_)
                    have e : vb = b := by simpa [Value.ownBlock] using hb
                    subst e
                    exact hk7 vb (HIR3.out.lt hb) (by omega) (by omega)
                  · intro b hb
                    have e : vb = b := by simpa [Value.ownBlock] using hb
                    omega
        · have hini : ¬ ((i2 : Int) < n) := by omega
          have hTAK : fr t i2 = nums := (fr_take hi2 (fr_full HFM.out HFNE.out hi2 hin hlm)).symm.trans HNU.out
          have hLm : nums.length = m := by have h2 := congrArg List.length HNU.out; rw [List.length_take] at h2; have := HFM.out; have := HFNE.out; omega
          rw [hTAK] at HBX HOW hlm b1
          skip
          obtain ⟨vb, vc', hv, hvb1, hvb2, hcells⟩ := owns_cells HOW.out (by omega)
          simp only [Value.slice.injEq] at hv
          obtain ⟨hv1, _, hv2⟩ := hv
          subst hv1 hv2
          have HNLT : Hid (∀ x ∈ nums, x < n) := hid (fun x hx => by rw [← hTAK] at hx; have := (fr_lt hx).1; omega)
          clear HFM HFNE HFR hTAK HNU
          have HLM := hid hLm
          rw [hLm] at HBX HOW hlm hcells b1
          skip
          have HCE := hid hcells
          have hk0 := HNLT.out (nums.getD 0 0) (getD_mem nums 0 0 (by omega))
          have cv0 := hcells 0 h0
          generalize hke : nums.getD 0 0 = k0 at *
          have HKE := hid hke
          clear hcells hke hLm
          skip
          go_wp2
          have hbxW := setc HBX.out 0 (.int .i64 (k0 : Int))
          have hbeW : Below w.heap.size w (wr.setCell ⟨w.heap.size, 0, none⟩ (.int .i64 (k0 : Int))) := HBL.out.setCell (p := ⟨w.heap.size, 0, none⟩) (Nat.le_refl _) _
          have HCW : Hid (∀ i, i < m → (wr.setCell ⟨w.heap.size, 0, none⟩ (.int .i64 (k0 : Int))).cell? ⟨vb, i, none⟩ = some (.int .i64 (nums.getD i 0 : Nat))) := hid (fun i hi => ((Mods.refl (fun b => b = w.heap.size) wr).setCell w.heap.size 0 (.int .i64 (k0 : Int)) rfl).cell (HCE.out i hi) (by omega))
          have HOWW : Hid ((wr.setCell ⟨w.heap.size, 0, none⟩ (.int .i64 (k0 : Int))).ownsRow (w.heap.size + 1) 3 1 (.slice (some ⟨vb, 0, none⟩) m vc) m (nums.map encN)) := hid (owns_keep HOW.out (fun b hb => Below.heap_setCell _ _ _ _ (by have := (owns_lt HOW.out hb).2; show b ≠ w.heap.size; omega)))
          have hsW : wr.heap.size = (wr.setCell ⟨w.heap.size, 0, none⟩ (.int .i64 (k0 : Int))).heap.size := by simp [World.setCell]
          have HHSW := hid hsW
          have HBXW : Hid ((wr.setCell ⟨w.heap.size, 0, none⟩ (.int .i64 (k0 : Int))).heap[w.heap.size]? = some (.cells #[.int .i64 k0, .slice (some ⟨vb, 0, none⟩) m vc] 127 (0, 0))) := hid hbxW
          have HBEW := hid hbeW
          clear hbxW hbeW HBX HBL HDr HOW HCE b0 b1 bz0 bz1 d0 d1 d2 d3 d4 d5 d6 fz4 fz5 fz6 hsW cv0
          generalize wr.setCell ⟨w.heap.size, 0, none⟩ (.int .i64 (k0 : Int)) = W at *
          have HDW : Hid (RBox W p gt (.slice fa fl fc) g len cap base n put got) := hid ((HBEW.out.block p hpl).trans HD.out)
          obtain ⟨d0, d1, d2, d3, d4, d5, d6, fz4, fz5, fz6⟩ := HDW.out.cells
          obtain ⟨b0, b1, bz0, bz1⟩ := box90 HBXW.out
          go_loopw [9] (fun x wx => ∃ k : Nat, k ≤ m ∧ x = .int .i64 k ∧ Mods (fun b => b = gt ∨ b = g) W wx ∧ Mem wx g N (layTo f base nums bufs k) ∧ Tk wx gt n (fun j => t j || (nums.take k).contains j)) (fun x _ => m - (RowKit.intOf x).toNat)
          case atStart => exact ⟨0, Nat.zero_le _, rfl, Mods.refl _ _, HM.out.below HBEW.out, (HT.out.keep (HBEW.out.block gt hgtl)).congr (fun j _ => by simp)⟩
          case round =>
            obtain ⟨k, hk, rfl, hmo, hmem, htk⟩ := hrel
            have hnp : ¬ (p = gt ∨ p = g) := by omega
            have hnB : ¬ (w.heap.size = gt ∨ w.heap.size = g) := by omega
            have hnv : ¬ (vb = gt ∨ vb = g) := by omega
            have d0k := hmo.cell d0 hnp
            have d1k := hmo.cell d1 hnp
            have d3k := hmo.cell d3 hnp
            have b1k := hmo.cell b1 hnB
            have HMO := hid hmo
            have HME := hid hmem
            have HTK := hid htk
            have ek : IntKind.i64.wrap ((k : Int) + 1) = (k : Int) + 1 := IntWalk.i64_in _ (by omega)
            by_cases hkm : k < m
            · have hki : (k : Int) < m := by omega
              have hk0' : (0 : Int) ≤ (k : Int) := by omega
              obtain ⟨bb, ob, hab, hbg, c0, c1, c2⟩ := HBu.out k (by rw [Hb.out]; exact hkm)
              obtain ⟨hbl, hbp, hbt⟩ := HaB.out bb ob hab
              have hnb : ¬ (bb = gt ∨ bb = g) := by omega
              replace c0 := hmo.cell (cell_later HBEW.out c0) hnb
              replace c1 := hmo.cell (cell_later HBEW.out c1) hnb
              replace c2 := hmo.cell (cell_later HBEW.out c2) hnb
              subst hab
              have cvk := hmo.cell (HCW.out k hkm) hnv
              have hx := HNLT.out _ (getD_mem nums 0 k (by rw [HLM.out]; exact hkm))
              have hbok := HOK.out _ (getD_mem bufs default k (by rw [Hb.out]; exact hkm))
              have hlay : layTo f base nums bufs (k + 1) = put1 (layTo f base nums bufs k) (base + nums.getD k 0 * 16) (bufs.getD k default) (flagsOf (bufs.getD k default).wt (decide (k + 1 < bufs.length))) (if k + 1 < bufs.length then (nums.getD (k + 1) 0 : Nat) else 0) := rfl
              rw [Hb.out] at hlay
              have HTH := hid (take_has nums k (by rw [HLM.out]; exact hkm))
              generalize bufs.getD k default = bf at *
              generalize nums.getD k 0 = x at *
              obtain ⟨baddr, blen, bwt⟩ := bf
              simp only at c0 c1 c2
              have HBOK := hid hbok
              have hxn : (x : Int) < n := by omega
              have hx0 : (0 : Int) ≤ (x : Int) := by omega
              have hct := HTK.out.cell hx
              have hfz := HTK.out.frozen x
              have ea1 : IntKind.i64.wrap (16 * (x : Int)) = 16 * (x : Int) := IntWalk.i64_in _ (by omega)
              have ea2 : IntKind.i64.wrap ((base : Int) + 16 * x) = ((base + x * 16 : Nat) : Int) := by rw [IntWalk.i64_in _ (by omega)]; omega
              have ea8 : IntKind.i64.wrap (((base + x * 16 : Nat) : Int) + 8) = ((base + x * 16 + 8 : Nat) : Int) := by rw [IntWalk.i64_in _ (by omega)]; omega
              have ea12 : IntKind.i64.wrap (((base + x * 16 : Nat) : Int) + 12) = ((base + x * 16 + 12 : Nat) : Int) := by rw [IntWalk.i64_in _ (by omega)]; omega
              have ea14 : IntKind.i64.wrap (((base + x * 16 : Nat) : Int) + 14) = ((base + x * 16 + 14 : Nat) : Int) := by rw [IntWalk.i64_in _ (by omega)]; omega
              have ha : base + x * 16 + 16 ≤ len := by omega
              generalize base + x * 16 = a at *
              have hms : Mods (fun b => b = gt) wr (wr.setCell ⟨gt, x, none⟩ (.bool true)) := (Mods.refl (fun b => b = gt) wr).setCell gt x (.bool true) rfl
              have HMS := hid hms
              have HS5 := hid (And.intro (hms.cell d3k (fun e => hgtp e.symm)) (And.intro (hms.cell b1k (by omega)) (hms.cell cvk (by omega))))
              clear hms hmo hmem htk hbok
              go_wp2
              go_region_held3 (fun w' => w'.cell? ⟨p, 3, none⟩ = some (.slice (some ⟨gt, 0, none⟩) n n) ∧ w'.cell? ⟨w.heap.size, 1, none⟩ = some (.slice (some ⟨vb, 0, none⟩) m vc) ∧ w'.cell? ⟨vb, k, none⟩ = some (.int .i64 x)) ((first | exact ⟨d3k, b1k, cvk⟩ | exact HS5.out)) (fail)
              have hT5 : Tk (wr.setCell ⟨gt, x, none⟩ (.bool true)).drew gt n (fun j => if j = x then true else (t j || (nums.take k).contains j)) := HTK.out.set x true
              have hm5 : Mods (fun b => b = gt) wr (wr.setCell ⟨gt, x, none⟩ (.bool true)).drew := HMS.out.drew
              clear HS5 HMS hct hfz
              generalize (wr.setCell ⟨gt, x, none⟩ (.bool true)).drew = w5 at *
              have HT5 := hid hT5
              replace d0k := hm5.cell d0k (fun e => hgtp e.symm)
              replace d1k := hm5.cell d1k (fun e => hgtp e.symm)
              replace b1k := hm5.cell b1k (by omega)
              replace cvk := hm5.cell cvk (by omega)
              replace c0 := hm5.cell c0 hbt
              replace c1 := hm5.cell c1 hbt
              replace c2 := hm5.cell c2 hbt
              have HM5 := hid hm5
              have HMO5 := hid (HMO.out.trans hm5 (fun b e => .inl (.inl e)))
              have HME5 := hid (HME.out.mods hm5 hggt)
              clear hT5 hm5 d3k HMO HME HTK
              go_wp2
              go_quiet (fail)
              obtain ⟨wA, hwA⟩ : ∃ wA, wA = w5.drewN nq := ⟨_, rfl⟩
              rw [← hwA]
              have hbA : Below w5.heap.size w5 wA := by rw [hwA]; exact below_drewN (Below.refl _ _) _
              clear hwA
              replace d0k := cell_later hbA d0k
              replace b1k := cell_later hbA b1k
              replace c0 := cell_later hbA c0
              replace c1 := cell_later hbA c1
              replace c2 := cell_later hbA c2
              have HMEA := hid (HME5.out.below hbA)
              have HTA := hid (HT5.out.keep (hbA.block gt (HT5.out.lt)))
              have HMOA := hid (HMO5.out.below hbA)
              clear hbA HT5 HME5 HMO5 cvk d1k
              have ef2 : IntKind.i64.wrap 2 = 2 := by decide
              have ef3 : IntKind.i64.wrap 3 = 3 := by decide
              have ef4 : IntKind.i64.wrap (1 + 2) = 3 := by decide
              have ef5 : IntKind.i64.wrap (0 + 2) = 2 := by decide
              by_cases hmore : k + 1 < m
              · have hmi : (k : Int) + 1 < m := by omega
                have hk1' : (0 : Int) ≤ (k : Int) + 1 := by omega
                have cvn := HMOA.out.cell (HCW.out (k + 1) hmore) hnv
                have hx1 := HNLT.out _ (getD_mem nums 0 (k + 1) (by rw [HLM.out]; exact hmore))
                rw [if_pos hmore, decide_eq_true hmore] at hlay
                generalize nums.getD (k + 1) 0 = x1 at *
                cases bwt
                · have HLay : Hid (layTo f base nums bufs (k + 1) = put1 (layTo f base nums bufs k) a ⟨baddr, blen, false⟩ 1 (x1 : Nat)) := hid hlay
                  clear hlay
                  obtain ⟨q1, q2, q3, q4⟩ := HBOK.out
                  simp only at q1 q2 q3 q4
                  have hc := hid (refset_any wA.drew g N len cap a 8 _ baddr (HMEA.out.below (Below.refl wA.heap.size wA).drew) hle hbig (by omega) (by omega) q1 q2)
                  go_wp2
                  go_region_held3 (fun w' => w'.cell? ⟨p, 0, none⟩ = some (.slice (some ⟨g, 0, none⟩) len cap) ∧ w'.cell? ⟨bb, ob + k * 3, none⟩ = some (.int .i64 baddr)) ((first | exact ⟨d0k, c0⟩ | exact HS6.out))
                    ((go_at_call 62; refine hc.out.mono ?_; rintro e w6 ⟨rfl, hm6, hmo6⟩; have HM6 := hid hm6; have HMO6 := hid hmo6; have HS6 := hid (And.intro (hmo6.cell (w := wA.drew) d0k (fun e => hgp e.symm)) (hmo6.cell (w := wA.drew) c0 hbg)); clear hm6 hmo6))
                  have d06 := HS6.out.1
                  have c16 := HMO6.out.cell (w := wA.drew) c1 hbg
                  have HMOB := hid ((HMOA.out.drew).trans HMO6.out (fun b e => .inl (.inr e)))
                  have hc7 := hid (refset_any w6.drew g N len cap (a + 8) 4 _ blen (HM6.out.below (Below.refl w6.heap.size w6).drew) hle hbig (by omega) (by omega) q3 (by omega))
                  clear HS6 hc d0k c0 c1 c2 b1k
                  go_wp2
                  go_region_held3 (fun w' => w'.cell? ⟨p, 0, none⟩ = some (.slice (some ⟨g, 0, none⟩) len cap) ∧ w'.cell? ⟨bb, ob + k * 3 + 1, none⟩ = some (.int .i64 blen)) ((first | exact ⟨d06, c16⟩ | exact HS7.out))
                    ((go_at_call 62; refine hc7.out.mono ?_; rintro e w7 ⟨rfl, hm7, hmo7⟩; have HM7 := hid hm7; have HMO7 := hid hmo7; have HS7 := hid (And.intro (hmo7.cell (w := w6.drew) d06 (fun e => hgp e.symm)) (hmo7.cell (w := w6.drew) c16 hbg)); clear hm7 hmo7))
                  have d07 := HS7.out.1
                  have HMOC := hid ((HMOB.out.drew).trans HMO7.out (fun b e => .inl (.inr e)))
                  have hc8 := hid (refset_any w7 g N len cap (a + 12) 2 _ 1 HM7.out hle hbig (by omega) (by omega) (by omega) (by omega))
                  clear HS7 hc7 d06 c16
                  go_wp2_with fail
                  refine hc8.out.mono ?_
                  rintro e w8 ⟨rfl, hm8, hmo8⟩
                  have d08 := hmo8.cell d07 (fun e => hgp e.symm)
                  have HM8 := hid hm8
                  have HMOD := hid (HMOC.out.trans hmo8 (fun b e => .inl (.inr e)))
                  have hc9 := hid (refset_any w8 g N len cap (a + 14) 2 _ (x1 : Nat) HM8.out hle hbig (by omega) (by omega) (by omega) (by omega))
                  have HK8 := hid hmo8
                  clear hm8 hmo8 hc8 d07
                  go_wp2_with fail
                  refine hc9.out.mono ?_
                  rintro e w9 ⟨rfl, hm9, hmo9⟩
                  have HM9 := hid hm9
                  have HMOE := hid (HMOD.out.trans hmo9 (fun b e => .inl (.inr e)))
                  have HK9 := hid hmo9
                  clear hm9 hmo9 hc9 d08
                  go_wp2
                  go_roundw
                  case rel =>
                    refine ⟨k + 1, by omega, by go_num, HMOE.out, ?_, ?_⟩
                    · rw [HLay.out]
                      exact HM9.out
                    · have hbt : w9.heap[gt]? = wA.heap[gt]? := by
                        have l0 := HTA.out.lt
                        have l6 := HMO6.out.size
                        have l7 := HMO7.out.size
                        have l8 := HK8.out.size
                        have l6' : wA.heap.size ≤ w6.heap.size := l6
                        have l7' : w6.heap.size ≤ w7.heap.size := l7
                        exact ((HK9.out.block gt (by omega) (fun e => hggt e.symm)).trans (HK8.out.block gt (by omega) (fun e => hggt e.symm))).trans ((HMO7.out.block gt (show gt < w6.heap.size by omega) (fun e => hggt e.symm)).trans (HMO6.out.block gt l0 (fun e => hggt e.symm)))
                      refine (HTA.out.keep hbt).congr (fun j _ => ?_)
                      rw [HTH.out]
                      by_cases e : j = x
                      · simp [e]
                      · rw [if_neg e, beq_eq_false_iff_ne.2 e, Bool.or_false]
                  case measure => simp only [RowKit.intOf]; omega
                · have HLay : Hid (layTo f base nums bufs (k + 1) = put1 (layTo f base nums bufs k) a ⟨baddr, blen, true⟩ 3 (x1 : Nat)) := hid hlay
                  clear hlay
                  obtain ⟨q1, q2, q3, q4⟩ := HBOK.out
                  simp only at q1 q2 q3 q4
                  have hc := hid (refset_any wA.drew g N len cap a 8 _ baddr (HMEA.out.below (Below.refl wA.heap.size wA).drew) hle hbig (by omega) (by omega) q1 q2)
                  go_wp2
                  go_region_held3 (fun w' => w'.cell? ⟨p, 0, none⟩ = some (.slice (some ⟨g, 0, none⟩) len cap) ∧ w'.cell? ⟨bb, ob + k * 3, none⟩ = some (.int .i64 baddr)) ((first | exact ⟨d0k, c0⟩ | exact HS6.out))
                    ((go_at_call 62; refine hc.out.mono ?_; rintro e w6 ⟨rfl, hm6, hmo6⟩; have HM6 := hid hm6; have HMO6 := hid hmo6; have HS6 := hid (And.intro (hmo6.cell (w := wA.drew) d0k (fun e => hgp e.symm)) (hmo6.cell (w := wA.drew) c0 hbg)); clear hm6 hmo6))
                  have d06 := HS6.out.1
                  have c16 := HMO6.out.cell (w := wA.drew) c1 hbg
                  have HMOB := hid ((HMOA.out.drew).trans HMO6.out (fun b e => .inl (.inr e)))
                  have hc7 := hid (refset_any w6.drew g N len cap (a + 8) 4 _ blen (HM6.out.below (Below.refl w6.heap.size w6).drew) hle hbig (by omega) (by omega) q3 (by omega))
                  clear HS6 hc d0k c0 c1 c2 b1k
                  go_wp2
                  go_region_held3 (fun w' => w'.cell? ⟨p, 0, none⟩ = some (.slice (some ⟨g, 0, none⟩) len cap) ∧ w'.cell? ⟨bb, ob + k * 3 + 1, none⟩ = some (.int .i64 blen)) ((first | exact ⟨d06, c16⟩ | exact HS7.out))
                    ((go_at_call 62; refine hc7.out.mono ?_; rintro e w7 ⟨rfl, hm7, hmo7⟩; have HM7 := hid hm7; have HMO7 := hid hmo7; have HS7 := hid (And.intro (hmo7.cell (w := w6.drew) d06 (fun e => hgp e.symm)) (hmo7.cell (w := w6.drew) c16 hbg)); clear hm7 hmo7))
                  have d07 := HS7.out.1
                  have HMOC := hid ((HMOB.out.drew).trans HMO7.out (fun b e => .inl (.inr e)))
                  have hc8 := hid (refset_any w7 g N len cap (a + 12) 2 _ 3 HM7.out hle hbig (by omega) (by omega) (by omega) (by omega))
                  clear HS7 hc7 d06 c16
                  go_wp2_with fail
                  refine hc8.out.mono ?_
                  rintro e w8 ⟨rfl, hm8, hmo8⟩
                  have d08 := hmo8.cell d07 (fun e => hgp e.symm)
                  have HM8 := hid hm8
                  have HMOD := hid (HMOC.out.trans hmo8 (fun b e => .inl (.inr e)))
                  have hc9 := hid (refset_any w8 g N len cap (a + 14) 2 _ (x1 : Nat) HM8.out hle hbig (by omega) (by omega) (by omega) (by omega))
                  have HK8 := hid hmo8
                  clear hm8 hmo8 hc8 d07
                  go_wp2_with fail
                  refine hc9.out.mono ?_
                  rintro e w9 ⟨rfl, hm9, hmo9⟩
                  have HM9 := hid hm9
                  have HMOE := hid (HMOD.out.trans hmo9 (fun b e => .inl (.inr e)))
                  have HK9 := hid hmo9
                  clear hm9 hmo9 hc9 d08
                  go_wp2
                  go_roundw
                  case rel =>
                    refine ⟨k + 1, by omega, by go_num, HMOE.out, ?_, ?_⟩
                    · rw [HLay.out]
                      exact HM9.out
                    · have hbt : w9.heap[gt]? = wA.heap[gt]? := by
                        have l0 := HTA.out.lt
                        have l6 := HMO6.out.size
                        have l7 := HMO7.out.size
                        have l8 := HK8.out.size
                        have l6' : wA.heap.size ≤ w6.heap.size := l6
                        have l7' : w6.heap.size ≤ w7.heap.size := l7
                        exact ((HK9.out.block gt (by omega) (fun e => hggt e.symm)).trans (HK8.out.block gt (by omega) (fun e => hggt e.symm))).trans ((HMO7.out.block gt (show gt < w6.heap.size by omega) (fun e => hggt e.symm)).trans (HMO6.out.block gt l0 (fun e => hggt e.symm)))
                      refine (HTA.out.keep hbt).congr (fun j _ => ?_)
                      rw [HTH.out]
                      by_cases e : j = x
                      · simp [e]
                      · rw [if_neg e, beq_eq_false_iff_ne.2 e, Bool.or_false]
                  case measure => simp only [RowKit.intOf]; omega
              · have hmi : ¬ ((k : Int) + 1 < m) := by omega
                rw [if_neg hmore, decide_eq_false hmore] at hlay
                cases bwt
                · have HLay : Hid (layTo f base nums bufs (k + 1) = put1 (layTo f base nums bufs k) a ⟨baddr, blen, false⟩ 0 0) := hid hlay
                  clear hlay
                  obtain ⟨q1, q2, q3, q4⟩ := HBOK.out
                  simp only at q1 q2 q3 q4
                  have hc := hid (refset_any wA.drew g N len cap a 8 _ baddr (HMEA.out.below (Below.refl wA.heap.size wA).drew) hle hbig (by omega) (by omega) q1 q2)
                  go_wp2
                  go_region_held3 (fun w' => w'.cell? ⟨p, 0, none⟩ = some (.slice (some ⟨g, 0, none⟩) len cap) ∧ w'.cell? ⟨bb, ob + k * 3, none⟩ = some (.int .i64 baddr)) ((first | exact ⟨d0k, c0⟩ | exact HS6.out))
                    ((go_at_call 62; refine hc.out.mono ?_; rintro e w6 ⟨rfl, hm6, hmo6⟩; have HM6 := hid hm6; have HMO6 := hid hmo6; have HS6 := hid (And.intro (hmo6.cell (w := wA.drew) d0k (fun e => hgp e.symm)) (hmo6.cell (w := wA.drew) c0 hbg)); clear hm6 hmo6))
                  have d06 := HS6.out.1
                  have c16 := HMO6.out.cell (w := wA.drew) c1 hbg
                  have HMOB := hid ((HMOA.out.drew).trans HMO6.out (fun b e => .inl (.inr e)))
                  have hc7 := hid (refset_any w6.drew g N len cap (a + 8) 4 _ blen (HM6.out.below (Below.refl w6.heap.size w6).drew) hle hbig (by omega) (by omega) q3 (by omega))
                  clear HS6 hc d0k c0 c1 c2 b1k
                  go_wp2
                  go_region_held3 (fun w' => w'.cell? ⟨p, 0, none⟩ = some (.slice (some ⟨g, 0, none⟩) len cap) ∧ w'.cell? ⟨bb, ob + k * 3 + 1, none⟩ = some (.int .i64 blen)) ((first | exact ⟨d06, c16⟩ | exact HS7.out))
                    ((go_at_call 62; refine hc7.out.mono ?_; rintro e w7 ⟨rfl, hm7, hmo7⟩; have HM7 := hid hm7; have HMO7 := hid hmo7; have HS7 := hid (And.intro (hmo7.cell (w := w6.drew) d06 (fun e => hgp e.symm)) (hmo7.cell (w := w6.drew) c16 hbg)); clear hm7 hmo7))
                  have d07 := HS7.out.1
                  have HMOC := hid ((HMOB.out.drew).trans HMO7.out (fun b e => .inl (.inr e)))
                  have hc8 := hid (refset_any w7 g N len cap (a + 12) 2 _ 0 HM7.out hle hbig (by omega) (by omega) (by omega) (by omega))
                  clear HS7 hc7 d06 c16
                  go_wp2_with fail
                  refine hc8.out.mono ?_
                  rintro e w8 ⟨rfl, hm8, hmo8⟩
                  have d08 := hmo8.cell d07 (fun e => hgp e.symm)
                  have HM8 := hid hm8
                  have HMOD := hid (HMOC.out.trans hmo8 (fun b e => .inl (.inr e)))
                  have hc9 := hid (refset_any w8 g N len cap (a + 14) 2 _ 0 HM8.out hle hbig (by omega) (by omega) (by omega) (by omega))
                  have HK8 := hid hmo8
                  clear hm8 hmo8 hc8 d07
                  go_wp2_with fail
                  refine hc9.out.mono ?_
                  rintro e w9 ⟨rfl, hm9, hmo9⟩
                  have HM9 := hid hm9
                  have HMOE := hid (HMOD.out.trans hmo9 (fun b e => .inl (.inr e)))
                  have HK9 := hid hmo9
                  clear hm9 hmo9 hc9 d08
                  go_wp2
                  go_roundw
                  case rel =>
                    refine ⟨k + 1, by omega, by go_num, HMOE.out, ?_, ?_⟩
                    · rw [HLay.out]
                      exact HM9.out
                    · have hbt : w9.heap[gt]? = wA.heap[gt]? := by
                        have l0 := HTA.out.lt
                        have l6 := HMO6.out.size
                        have l7 := HMO7.out.size
                        have l8 := HK8.out.size
                        have l6' : wA.heap.size ≤ w6.heap.size := l6
                        have l7' : w6.heap.size ≤ w7.heap.size := l7
                        exact ((HK9.out.block gt (by omega) (fun e => hggt e.symm)).trans (HK8.out.block gt (by omega) (fun e => hggt e.symm))).trans ((HMO7.out.block gt (show gt < w6.heap.size by omega) (fun e => hggt e.symm)).trans (HMO6.out.block gt l0 (fun e => hggt e.symm)))
                      refine (HTA.out.keep hbt).congr (fun j _ => ?_)
                      rw [HTH.out]
                      by_cases e : j = x
                      · simp [e]
                      · rw [if_neg e, beq_eq_false_iff_ne.2 e, Bool.or_false]
                  case measure => simp only [RowKit.intOf]; omega
                · have HLay : Hid (layTo f base nums bufs (k + 1) = put1 (layTo f base nums bufs k) a ⟨baddr, blen, true⟩ 2 0) := hid hlay
                  clear hlay
                  obtain ⟨q1, q2, q3, q4⟩ := HBOK.out
                  simp only at q1 q2 q3 q4
                  have hc := hid (refset_any wA.drew g N len cap a 8 _ baddr (HMEA.out.below (Below.refl wA.heap.size wA).drew) hle hbig (by omega) (by omega) q1 q2)
                  go_wp2
                  go_region_held3 (fun w' => w'.cell? ⟨p, 0, none⟩ = some (.slice (some ⟨g, 0, none⟩) len cap) ∧ w'.cell? ⟨bb, ob + k * 3, none⟩ = some (.int .i64 baddr)) ((first | exact ⟨d0k, c0⟩ | exact HS6.out))
                    ((go_at_call 62; refine hc.out.mono ?_; rintro e w6 ⟨rfl, hm6, hmo6⟩; have HM6 := hid hm6; have HMO6 := hid hmo6; have HS6 := hid (And.intro (hmo6.cell (w := wA.drew) d0k (fun e => hgp e.symm)) (hmo6.cell (w := wA.drew) c0 hbg)); clear hm6 hmo6))
                  have d06 := HS6.out.1
                  have c16 := HMO6.out.cell (w := wA.drew) c1 hbg
                  have HMOB := hid ((HMOA.out.drew).trans HMO6.out (fun b e => .inl (.inr e)))
                  have hc7 := hid (refset_any w6.drew g N len cap (a + 8) 4 _ blen (HM6.out.below (Below.refl w6.heap.size w6).drew) hle hbig (by omega) (by omega) q3 (by omega))
                  clear HS6 hc d0k c0 c1 c2 b1k
                  go_wp2
                  go_region_held3 (fun w' => w'.cell? ⟨p, 0, none⟩ = some (.slice (some ⟨g, 0, none⟩) len cap) ∧ w'.cell? ⟨bb, ob + k * 3 + 1, none⟩ = some (.int .i64 blen)) ((first | exact ⟨d06, c16⟩ | exact HS7.out))
                    ((go_at_call 62; refine hc7.out.mono ?_; rintro e w7 ⟨rfl, hm7, hmo7⟩; have HM7 := hid hm7; have HMO7 := hid hmo7; have HS7 := hid (And.intro (hmo7.cell (w := w6.drew) d06 (fun e => hgp e.symm)) (hmo7.cell (w := w6.drew) c16 hbg)); clear hm7 hmo7))
                  have d07 := HS7.out.1
                  have HMOC := hid ((HMOB.out.drew).trans HMO7.out (fun b e => .inl (.inr e)))
                  have hc8 := hid (refset_any w7 g N len cap (a + 12) 2 _ 2 HM7.out hle hbig (by omega) (by omega) (by omega) (by omega))
                  clear HS7 hc7 d06 c16
                  go_wp2_with fail
                  refine hc8.out.mono ?_
                  rintro e w8 ⟨rfl, hm8, hmo8⟩
                  have d08 := hmo8.cell d07 (fun e => hgp e.symm)
                  have HM8 := hid hm8
                  have HMOD := hid (HMOC.out.trans hmo8 (fun b e => .inl (.inr e)))
                  have hc9 := hid (refset_any w8 g N len cap (a + 14) 2 _ 0 HM8.out hle hbig (by omega) (by omega) (by omega) (by omega))
                  have HK8 := hid hmo8
                  clear hm8 hmo8 hc8 d07
                  go_wp2_with fail
                  refine hc9.out.mono ?_
                  rintro e w9 ⟨rfl, hm9, hmo9⟩
                  have HM9 := hid hm9
                  have HMOE := hid (HMOD.out.trans hmo9 (fun b e => .inl (.inr e)))
                  have HK9 := hid hmo9
                  clear hm9 hmo9 hc9 d08
                  go_wp2
                  go_roundw
                  case rel =>
                    refine ⟨k + 1, by omega, by go_num, HMOE.out, ?_, ?_⟩
                    · rw [HLay.out]
                      exact HM9.out
                    · have hbt : w9.heap[gt]? = wA.heap[gt]? := by
                        have l0 := HTA.out.lt
                        have l6 := HMO6.out.size
                        have l7 := HMO7.out.size
                        have l8 := HK8.out.size
                        have l6' : wA.heap.size ≤ w6.heap.size := l6
                        have l7' : w6.heap.size ≤ w7.heap.size := l7
                        exact ((HK9.out.block gt (by omega) (fun e => hggt e.symm)).trans (HK8.out.block gt (by omega) (fun e => hggt e.symm))).trans ((HMO7.out.block gt (show gt < w6.heap.size by omega) (fun e => hggt e.symm)).trans (HMO6.out.block gt l0 (fun e => hggt e.symm)))
                      refine (HTA.out.keep hbt).congr (fun j _ => ?_)
                      rw [HTH.out]
                      by_cases e : j = x
                      · simp [e]
                      · rw [if_neg e, beq_eq_false_iff_ne.2 e, Bool.or_false]
                  case measure => simp only [RowKit.intOf]; omega
            · have hki : ¬ ((k : Int) < m) := by omega
              obtain rfl : m = k := by omega
              have HDR : Hid (RBox wr p gt (.slice fa fl fc) g len cap base n put got) := hid ((hmo.block p HDW.out.lt hnp).trans HDW.out)
              have HBXR : Hid (wr.heap[w.heap.size]? = some (.cells #[.int .i64 k0, .slice (some ⟨vb, 0, none⟩) m vc] 127 (0, 0))) := hid ((hmo.block w.heap.size (Array.getElem?_eq_some_iff.1 HBXW.out).1 hnB).trans HBXW.out)
              have hszr : w.heap.size ≤ wr.heap.size := Nat.le_trans HBEW.out.size hmo.size
              have HMA : Hid (Mods (fun b => b = p ∨ b = gt ∨ b = g ∨ (Value.slice fa fl fc).ownBlock = some b) w wr) := hid ((Mods.of_below HBEW.out).trans hmo (fun b e => .inl (.inr (e.elim .inl (fun e => .inr (.inl e))))))
              have HFr : Hid (FRow wr (.slice fa fl fc) F) := hid (owns_keep HF.out (fun b hb => (hmo.block b (Nat.lt_of_lt_of_le (HVFB.out b hb).1 HBEW.out.size) (by have := HVFB.out b hb; omega)).trans (HBEW.out.block b (HVFB.out b hb).1)))
              have HOR : Hid (wr.ownsRow (w.heap.size + 1) 3 1 (.slice (some ⟨vb, 0, none⟩) m vc) m (nums.map encN)) := hid (owns_keep HOWW.out (fun b hb => hmo.block b (owns_lt HOWW.out hb).1 (by have := (owns_lt HOWW.out hb).2; omega)))
              obtain ⟨r0, r1, rz0, rz1⟩ := box90 HBXR.out
              obtain ⟨d0r, d1r, d2r, d3r, d4r, d5r, d6r, fz4r, fz5r, fz6r⟩ := HDR.out.cells
              have hBlt : w.heap.size < wr.heap.size := (Array.getElem?_eq_some_iff.1 HBXR.out).1
              have hbe1 : Below wr.heap.size wr (wr.drew.alloc (.cells #[.int .i64 (k0 : Int), .slice (some ⟨vb, 0, none⟩) m vc] 127)) := ((Below.refl wr.heap.size wr).drew).alloc (Nat.le_refl _) _
              obtain ⟨v', w', hrun, how, hgr, hob⟩ := append_ch_run (wr.drew.alloc (.cells #[.int .i64 (k0 : Int), .slice (some ⟨vb, 0, none⟩) m vc] 127)) 0 (.slice fa fl fc) F (owns_below HFr.out hbe1) wr.heap.size 1 (k0, .slice (some ⟨vb, 0, none⟩) m vc) (new_cell wr.drew _ _ _ 0 (by simp)) (new_cell wr.drew _ _ _ 1 (by simp)) rfl (by rw [HFL.out]; omega) (Nat.zero_le _) 109
              obtain ⟨va', vc', hv'⟩ := owns_slice how
              subst hv'
              have e0 : (F ++ [(k0, Value.slice (some ⟨vb, 0, none⟩) m vc)]).length = fl + 1 := by rw [List.length_append, HFL.out]; rfl
              rw [e0] at hrun
              have how1 := how
              rw [e0] at how hob
              have hm1 : Mods (fun b => (Value.slice fa fl fc).ownBlock = some b) wr w' := (Mods.of_below hbe1).grown hgr (fun b hb => .inl hb)
              have hpw' : w'.heap[p]? = wr.heap[p]? := hm1.block p HDR.out.lt (fun e => (HVFB.out p e).2.1 rfl)
              have hD2 : RBox w' p gt (.slice fa fl fc) g len cap base n put got := hpw'.trans HDR.out
              have hB2 : w'.heap[w.heap.size]? = some (.cells #[.int .i64 k0, .slice (some ⟨vb, 0, none⟩) m vc] 127 (0, 0)) := (hm1.block w.heap.size hBlt (fun e => by have := (HVFB.out _ e).1; omega)).trans HBXR.out
              have hmS : Mods (fun b => b = p) w' (w'.setCell ⟨p, 6, none⟩ (.slice va' (fl + 1) vc')) := (Mods.refl (fun b => b = p) w').setCell p 6 _ rfl
              have hB3 : (w'.setCell ⟨p, 6, none⟩ (.slice va' (fl + 1) vc')).heap[w.heap.size]? = some (.cells #[.int .i64 k0, .slice (some ⟨vb, 0, none⟩) m vc] 127 (0, 0)) := (hmS.block w.heap.size (by have := hm1.size; omega) (by omega)).trans hB2
              obtain ⟨y0, y1, _, _⟩ := box90 hB2
              obtain ⟨x0, x1, _, _⟩ := box90 hB3
              have s1a := cell_later hbe1 r0
              have s1b := cell_later hbe1 r1
              have s1c := cell_later hbe1 d6r
              obtain ⟨_, _, _, _, _, _, g6, _, _, gz6⟩ := hD2.cells
              have hD3 : RBox (w'.setCell ⟨p, 6, none⟩ (.slice va' (fl + 1) vc')) p gt (.slice va' (fl + 1) vc') g len cap base n put got := setc hD2 6 _
              have HD3 := hid hD3
              have HB3 := hid hB3
              have HM3 : Hid (Mem (w'.setCell ⟨p, 6, none⟩ (.slice va' (fl + 1) vc')) g N (layTo f base nums bufs m)) := hid ((HME.out.mods hm1 (fun e => (HVFB.out g e).2.2.2 rfl)).mods hmS hgp)
              have HMA3 : Hid (Mods (fun b => b = p ∨ b = gt ∨ b = g ∨ (Value.slice fa fl fc).ownBlock = some b) w (w'.setCell ⟨p, 6, none⟩ (.slice va' (fl + 1) vc'))) := hid ((HMA.out.trans hm1 (fun b e => .inl (.inr (.inr (.inr e))))).trans hmS (fun b e => .inl (.inl e)))
              have HT3 : Hid (Tk (w'.setCell ⟨p, 6, none⟩ (.slice va' (fl + 1) vc')) gt n (fun j => t j || nums.contains j)) := hid (((htk.keep (hm1.block gt htk.lt (fun e => (HVFB.out gt e).2.2.1 rfl))).keep (hmS.block gt (by have := htk.lt; have := hm1.size; omega) hgtp)).congr (fun j _ => by rw [List.take_of_length_le (by rw [HLM.out]; exact Nat.le_refl _)]))
              have HFR3 : Hid (FRow (w'.setCell ⟨p, 6, none⟩ (.slice va' (fl + 1) vc')) (.slice va' (fl + 1) vc') (F ++ [(k0, Value.slice (some ⟨vb, 0, none⟩) m vc)])) := hid (by
                rw [e0] at how1
                have h5 : w'.ownsRow 0 127 2 (.slice va' (fl + 1) vc') (F ++ [(k0, Value.slice (some ⟨vb, 0, none⟩) m vc)]).length (cellsF (F ++ [(k0, Value.slice (some ⟨vb, 0, none⟩) m vc)])) := by rw [e0]; exact how1
                refine owns_keep h5 (fun b hb => hmS.block b (owns_lt h5 hb).1 (fun e => ?_))
                rcases hob with h6 | h6
                · rw [hb] at h6; exact (HVFB.out b h6.symm).2.1 e
                · rw [hb] at h6
                  simp only [Option.some.injEq] at h6
                  have h7 := hbe1.size
                  omega)
              have HOV : Hid (∀ b, (Value.slice va' (fl + 1) vc').ownBlock = some b → (Value.slice fa fl fc).ownBlock = some b ∨ w.heap.size ≤ b) := hid (fun b hb => by
                rcases hob with h6 | h6
                · rw [hb] at h6; exact .inl h6.symm
                · rw [hb] at h6
                  simp only [Option.some.injEq] at h6
                  have h7 := hbe1.size
                  exact .inr (by omega))
              have HIR3 : Hid (IRow (w'.setCell ⟨p, 6, none⟩ (.slice va' (fl + 1) vc')) (.slice (some ⟨vb, 0, none⟩) m vc) nums) := hid (by
                have h5 : w'.ownsRow (w.heap.size + 1) 3 1 (.slice (some ⟨vb, 0, none⟩) m vc) m (nums.map encN) := owns_keep HOR.out (fun b hb => hm1.block b (owns_lt HOR.out hb).1 (fun e => by have := (HVFB.out b e).1; have := (owns_lt HOR.out hb).2; omega))
                have h6 : (w'.setCell ⟨p, 6, none⟩ (.slice va' (fl + 1) vc')).ownsRow (w.heap.size + 1) 3 1 (.slice (some ⟨vb, 0, none⟩) m vc) m (nums.map encN) := owns_keep h5 (fun b hb => hmS.block b (owns_lt h5 hb).1 (by have := (owns_lt h5 hb).2; omega))
                unfold IRow
                rw [HLM.out]
                exact owns_mono h6 (Nat.zero_le _))
              have s0a : wr.drew.cell? ⟨w.heap.size, 0, none⟩ = some (.int .i64 (k0 : Int)) := r0
              have s0b : wr.drew.cell? ⟨w.heap.size, 1, none⟩ = some (.slice (some ⟨vb, 0, none⟩) m vc) := r1
              have s0c : wr.drew.cell? ⟨p, 6, none⟩ = some (.slice fa fl fc) := d6r
              have HALL := hid (And.intro s0a s0b)
              have s1d : (wr.alloc (.cells #[.int .i64 (k0 : Int), .slice (some ⟨vb, 0, none⟩) m vc] 127)).cell? ⟨p, 6, none⟩ = some (.slice fa fl fc) := s1c
              clear hmo hmem htk hD2 hB2 hmS hB3 hD3 hm1 hgr how how1 hob hpw' hbe1
              clear d0k d1k d3k b1k r0 r1 rz0 rz1 d0r d1r d2r d3r d4r d5r d6r fz4r fz5r fz6r d0 d1 d2 d3 d4 d5 d6 fz4 fz5 fz6 b0 b1 bz0 bz1
              go_wp2
              refine wp_region_held_drew (S := (fun w' => w'.cell? ⟨w.heap.size, 0, none⟩ = some (.int .i64 (k0 : Int)) ∧ w'.cell? ⟨w.heap.size, 1, none⟩ = some (.slice (some ⟨vb, 0, none⟩) m vc))) (by kernel_rfl) HALL.out (fun hS => ?_)
              refine any_take 0 169 (.pointer (some ⟨p, 0, none⟩)) rfl rfl (by kernel_rfl) (by kernel_rfl) (by kernel_rfl) (fun _ _ _ h => h) (Or.inl ⟨by rfl, ?_⟩) hS ?_
              · rintro w' ⟨hw1, hw2⟩
                go_simp
              simp only [List.setIfInBounds_toArray, List.set_cons_zero, List.set_cons_succ]
              refine any_take 1 170 (.pointer (some ⟨p, 0, none⟩)) rfl rfl (by kernel_rfl) (by kernel_rfl) (by kernel_rfl) (fun _ _ _ h => h) (Or.inl ⟨by rfl, ?_⟩) hS ?_
              · rintro w' ⟨hw1, hw2⟩
                go_simp
              simp only [List.setIfInBounds_toArray, List.set_cons_zero, List.set_cons_succ]
              refine any_take 2 171 (.pointer (some ⟨p, 0, none⟩)) rfl rfl (by kernel_rfl) (by kernel_rfl) (by kernel_rfl) (fun _ _ _ h => h) (Or.inl ⟨by rfl, ?_⟩) hS ?_
              · rintro w' ⟨hw1, hw2⟩
                go_simp
              simp only [List.setIfInBounds_toArray, List.set_cons_zero, List.set_cons_succ]
              refine any_take 3 172 (.pointer (some ⟨p, 6, none⟩)) rfl rfl (by kernel_rfl) (by kernel_rfl) (by kernel_rfl) (fun _ _ _ h => h) (Or.inl ⟨by rfl, ?_⟩) hS ?_
              · rintro w' ⟨hw1, hw2⟩
                go_simp
              simp only [List.setIfInBounds_toArray, List.set_cons_zero, List.set_cons_succ]
              refine any_take 5 174 (.agg #[.int .i64 (k0 : Int), .slice (some ⟨vb, 0, none⟩) m vc]) rfl rfl (by kernel_rfl) (by kernel_rfl) (by kernel_rfl) (fun _ _ _ h => h) (Or.inl ⟨by rfl, ?_⟩) hS ?_
              · rintro w' ⟨hw1, hw2⟩
                go_simp
              simp only [List.setIfInBounds_toArray, List.set_cons_zero, List.set_cons_succ]
              refine any_two 4 6 (by kernel_rfl) ?_ ?_
              · refine op_value' 173 (v := .slice fa fl fc) (w' := wr.drew) rfl (by rfl) rfl (by go_simp) ⟨⟨s0a, s0b⟩, ?_⟩
                simp only [List.setIfInBounds_toArray, List.set_cons_zero, List.set_cons_succ]
                refine any_one 6 (by kernel_rfl) ?_
                refine op_value' 175 (v := .slice (some ⟨wr.heap.size, 0, none⟩) 1 1) (w' := (wr.drew.alloc (.cells #[.int .i64 (k0 : Int), .slice (some ⟨vb, 0, none⟩) m vc] 127))) rfl (by rfl) rfl (by go_simp) ⟨⟨s1a, s1b⟩, ?_⟩
                simp only [List.setIfInBounds_toArray, List.set_cons_zero, List.set_cons_succ]
                refine any_one 7 (by kernel_rfl) ?_
                refine op_append' 176 (v := .slice fa fl fc) (y := .slice (some ⟨wr.heap.size, 0, none⟩) 1 1) (v' := .slice va' (fl + 1) vc') (w' := w') rfl (by rfl) rfl (.tmp 173) (.tmp 175) 109 rfl rfl rfl 109 rfl hrun ⟨⟨y0, y1⟩, ?_⟩
                simp only [List.setIfInBounds_toArray, List.set_cons_zero, List.set_cons_succ]
                refine any_one 8 (by kernel_rfl) ?_
                refine op_value' 177 (v := .pointer (some ⟨p, 0, none⟩)) (w' := w') rfl (by rfl) rfl (by go_simp) ⟨⟨y0, y1⟩, ?_⟩
                simp only [List.setIfInBounds_toArray, List.set_cons_zero, List.set_cons_succ]
                refine any_one 9 (by kernel_rfl) ?_
                refine op_value' 178 (v := .pointer (some ⟨p, 6, none⟩)) (w' := w') rfl (by rfl) rfl (by go_simp) ⟨⟨y0, y1⟩, ?_⟩
                simp only [List.setIfInBounds_toArray, List.set_cons_zero, List.set_cons_succ]
                refine any_one 10 (by kernel_rfl) ?_
                refine op_skip (w' := (w'.setCell ⟨p, 6, none⟩ (.slice va' (fl + 1) vc'))) rfl (by rfl) (by go_simp) ⟨⟨x0, x1⟩, ?_⟩
                refine wpAnyH_done (by kernel_rfl) ?_ _
                clear s0a s0b s0c s1a s1b s1c s1d y0 y1 x0 x1 g6 gz6 hrun HALL hS
                generalize w'.setCell ⟨p, 6, none⟩ (.slice va' (fl + 1) vc') = w3 at *
                obtain ⟨d0, d1, d2, d3, d4, d5, d6, fz4, fz5, fz6⟩ := HD3.out.cells
                have hn0 : ¬ ((n : Int) = 0) := by omega
                have hn0b : ((n : Int) == 0) = false := by simp; omega
                have hn0c : (n : Int) ≠ 0 := by omega
                have hn0d : ¬ (n = 0) := by omega
                have hmlt : put % n < n := Nat.mod_lt _ (by omega)
                have e1 : IntKind.i64.wrap (16 * (n : Int)) = 16 * (n : Int) := IntWalk.i64_in _ (by omega)
                have e2 : IntKind.i64.wrap ((base : Int) + 16 * n) = ((base + 16 * n : Nat) : Int) := by rw [IntWalk.i64_in _ (by omega)]; omega
                have e3 : IntKind.i64.wrap (((base + 16 * n : Nat) : Int) + 2) = ((base + 16 * n + 2 : Nat) : Int) := by rw [IntWalk.i64_in _ (by omega)]; omega
                have e4 : Int.tmod (put : Int) (n : Int) = ((put % n : Nat) : Int) := (Int.ofNat_tmod put n).symm
                have e5 : IntKind.i64.wrap (2 * ((put % n : Nat) : Int)) = 2 * ((put % n : Nat) : Int) := IntWalk.i64_in _ (by omega)
                have e6 : IntKind.i64.wrap (((base + 16 * n : Nat) : Int) + 4) = ((base + 16 * n : Nat) : Int) + 4 := IntWalk.i64_in _ (by omega)
                have e7 : IntKind.i64.wrap (((base + 16 * n : Nat) : Int) + 4 + 2 * ((put % n : Nat) : Int)) = ((base + 16 * n + (4 + put % n * 2) : Nat) : Int) := by rw [IntWalk.i64_in _ (by omega)]; omega
                have e10 : IntKind.i64.wrap ((put : Int) + 1) = (put : Int) + 1 := IntWalk.i64_in _ (by omega)
                have e11 : Int.tmod ((put : Int) + 1) 65536 = (((put + 1) % 65536 : Nat) : Int) := by rw [show ((put : Int) + 1) = ((put + 1 : Nat) : Int) by omega]; exact (Int.ofNat_tmod (put + 1) 65536).symm
                have hp1 : (put + 1) % 65536 < 65536 := Nat.mod_lt _ (by omega)
                have l1 : base + 16 * n + (4 + put % n * 2) + 2 ≤ len := by omega
                have l2 : base + 16 * n + 2 + 2 ≤ len := by omega
                generalize hA1 : base + 16 * n + (4 + put % n * 2) = at1 at *
                generalize hA2 : base + 16 * n + 2 = at2 at *
                generalize hRG : base + 16 * n = ring at *
                generalize hPM : put % n = pm at *
                have HRG := hid hRG
                have HPM := hid hPM
                clear hRG hPM
                generalize hP1 : (put + 1) % 65536 = put1 at *
                have HA1 := hid hA1
                have HA2 := hid hA2
                have HP1 := hid hP1
                clear hA1 hA2 hP1
                go_wp2
                go_quiet (fail)
                obtain ⟨w4, hw4⟩ : ∃ w4, w4 = w3.drewN nq := ⟨_, rfl⟩
                rw [← hw4]
                have hb4 : Below w3.heap.size w3 w4 := by rw [hw4]; exact below_drewN (Below.refl _ _) _
                clear hw4
                have HB4 := hid hb4
                replace d0 := cell_later hb4 d0
                replace d2 := cell_later hb4 d2
                replace d4 := cell_later hb4 d4
                have t0 := cell_later hb4 (box90 HB3.out).1
                have hc5 := hid (refset_any w4.drew g N len cap at1 2 _ (k0 : Int) ((HM3.out.below hb4).below (Below.refl w4.heap.size w4).drew) hle hbig l1 (by omega) (by omega) (by omega))
                clear hb4 d1 d3 d5 d6 fz4 fz5 fz6
                go_wp2
                go_region_held3 (fun w' => w'.cell? ⟨p, 0, none⟩ = some (.slice (some ⟨g, 0, none⟩) len cap) ∧ w'.cell? ⟨p, 2, none⟩ = some (.int .i64 n) ∧ w'.cell? ⟨p, 4, none⟩ = some (.int .i64 put) ∧ w'.cell? ⟨w.heap.size, 0, none⟩ = some (.int .i64 k0)) ((first | exact ⟨d0, d2, d4, t0⟩ | exact HS5.out))
                  ((go_at_call 62; refine hc5.out.mono ?_; rintro e w5 ⟨rfl, hm5, hmo5⟩; have HM5 := hid hm5; have HMO5 := hid hmo5; have HS5 := hid (And.intro (hmo5.cell (w := w4.drew) d0 (fun e => hgp e.symm)) (And.intro (hmo5.cell (w := w4.drew) d2 (fun e => hgp e.symm)) (And.intro (hmo5.cell (w := w4.drew) d4 (fun e => hgp e.symm)) (hmo5.cell (w := w4.drew) t0 (by omega))))); clear hm5 hmo5))
                have hk5 : ∀ b, b < w3.heap.size → b ≠ g → w5.heap[b]? = w3.heap[b]? := fun b hb hne => (HMO5.out.block b (show b < w4.heap.size by have := HB4.out.size; omega) hne).trans (HB4.out.block b hb)
                have HK5 := hid hk5
                have HD5 : Hid (RBox w5 p gt (.slice va' (fl + 1) vc') g len cap base n put got) := hid ((hk5 p HD3.out.lt (fun e => hgp e.symm)).trans HD3.out)
                have HMA5 := hid ((HMA3.out.below HB4.out).drew.trans HMO5.out (fun b e => .inl (.inr (.inr (.inl e)))))
                obtain ⟨d0, d1, d2, d3, d4, d5, d6, fz4, fz5, fz6⟩ := HD5.out.cells
                clear HS5 hc5 hk5 t0
                go_wp2
                have hD6 : RBox (w5.setCell ⟨p, 4, none⟩ (.int .i64 put1)) p gt (.slice va' (fl + 1) vc') g len cap base n put1 got := setc HD5.out 4 _
                have hmS : Mods (fun b => b = p) w5 (w5.setCell ⟨p, 4, none⟩ (.int .i64 put1)) := (Mods.refl (fun b => b = p) w5).setCell p 4 _ rfl
                have HM6 := hid (HM5.out.mods hmS hgp)
                have HMA6 := hid (HMA5.out.trans hmS (fun b e => .inl (.inl e)))
                have HK6 : Hid (∀ b, b < w3.heap.size → b ≠ g → b ≠ p → (w5.setCell ⟨p, 4, none⟩ (.int .i64 put1)).heap[b]? = w3.heap[b]?) := hid (fun b hb h1 h2 => (hmS.block b (by have h1 := HMO5.out.size; have h2 := HB4.out.size; have h3 : w4.heap.size ≤ w5.heap.size := h1; omega) h2).trans (HK5.out b hb h1))
                have HD6 := hid hD6
                clear d0 d1 d2 d3 d4 d5 d6 fz4 fz5 fz6
                have hz6 : w5.heap.size ≤ (w5.setCell ⟨p, 4, none⟩ (.int .i64 put1)).heap.size := hmS.size
                have hz5 : w3.heap.size ≤ w5.heap.size := by have h1 := HMO5.out.size; have h2 := HB4.out.size; have h3 : w4.heap.size ≤ w5.heap.size := h1; omega
                clear hmS hD6
                generalize w5.setCell ⟨p, 4, none⟩ (.int .i64 put1) = w6 at *
                obtain ⟨d0, d1, d2, d3, d4, d5, d6, fz4, fz5, fz6⟩ := HD6.out.cells
                have hc7 := hid (refset_any w6.drew g N len cap at2 2 _ (put1 : Int) (HM6.out.below (Below.refl w6.heap.size w6).drew) hle hbig l2 (by omega) (by omega) (by omega))
                have t6 := (box90 ((HK6.out w.heap.size (Array.getElem?_eq_some_iff.1 HB3.out).1 (by omega) (by omega)).trans HB3.out)).1
                go_region_held3 (fun w' => w'.cell? ⟨p, 0, none⟩ = some (.slice (some ⟨g, 0, none⟩) len cap) ∧ w'.cell? ⟨p, 4, none⟩ = some (.int .i64 put1)) ((first | exact ⟨d0, d4⟩ | exact HS7.out))
                  ((go_at_call 62; refine hc7.out.mono ?_; rintro e w7 ⟨rfl, hm7, hmo7⟩; have HM7 := hid hm7; have HMO7 := hid hmo7; have HS7 := hid (And.intro (hmo7.cell (w := w6.drew) d0 (fun e => hgp e.symm)) (hmo7.cell (w := w6.drew) d4 (fun e => hgp e.symm))); clear hm7 hmo7))
                have t7 := HMO7.out.cell (w := w6.drew) t6 (by omega)
                go_wp2
                go_ret2
                rw [HKE.out]
                have hk7 : ∀ b, b < w3.heap.size → b ≠ g → b ≠ p → w7.heap[b]? = w3.heap[b]? := fun b hb h1 h2 => (HMO7.out.block b (show b < w6.heap.size by omega) h1).trans (HK6.out b hb h1 h2)
                refine ⟨rfl, HMA6.out.drew.trans HMO7.out (fun b e => .inl (.inr (.inr (.inl e)))), ?_, .slice va' (fl + 1) vc', .slice (some ⟨vb, 0, none⟩) m vc, ?_, HT3.out.keep (hk7 gt HT3.out.lt (fun e => hggt e.symm) hgtp), ?_, ?_, ?_, HOV.out⟩
                · rw [HRG.out, HPM.out, HA1.out, HA2.out, HP1.out]
                  exact HM7.out
                · rw [HP1.out]
                  exact (HMO7.out.block p (show p < w6.heap.size from HD6.out.lt) (fun e => hgp e.symm)).trans HD6.out
                · refine owns_keep HFR3.out (fun b hb => hk7 b (owns_lt HFR3.out hb).1 ?_ ?_)
                  · intro e
                    rcases HOV.out b hb with h | h
                    · exact (HVFB.out b h).2.2.2 e
                    · omega
                  · intro e
                    rcases HOV.out b hb with h | h
                    · exact (HVFB.out b h).2.1 e
                    · omega
                · refine HIR3.out.keep (fun b hb => ?_)
                  have e : vb = b := by simpa [Value.ownBlock] using hb
                  subst e
                  exact hk7 vb (HIR3.out.lt hb) (by omega) (by omega)
                · intro b hb
                  have e : vb = b := by simpa [Value.ownBlock] using hb
                  omega
              · refine op_value' 175 (v := .slice (some ⟨wr.heap.size, 0, none⟩) 1 1) (w' := (wr.drew.alloc (.cells #[.int .i64 (k0 : Int), .slice (some ⟨vb, 0, none⟩) m vc] 127))) rfl (by rfl) rfl (by go_simp) ⟨⟨s1a, s1b⟩, ?_⟩
                simp only [List.setIfInBounds_toArray, List.set_cons_zero, List.set_cons_succ]
                refine any_one 4 (by kernel_rfl) ?_
                refine op_value' 173 (v := .slice fa fl fc) (w' := (wr.drew.alloc (.cells #[.int .i64 (k0 : Int), .slice (some ⟨vb, 0, none⟩) m vc] 127))) rfl (by rfl) rfl (by go_simp) ⟨⟨s1a, s1b⟩, ?_⟩
                simp only [List.setIfInBounds_toArray, List.set_cons_zero, List.set_cons_succ]
                refine any_one 7 (by kernel_rfl) ?_
                refine op_append' 176 (v := .slice fa fl fc) (y := .slice (some ⟨wr.heap.size, 0, none⟩) 1 1) (v' := .slice va' (fl + 1) vc') (w' := w') rfl (by rfl) rfl (.tmp 173) (.tmp 175) 109 rfl rfl rfl 109 rfl hrun ⟨⟨y0, y1⟩, ?_⟩
                simp only [List.setIfInBounds_toArray, List.set_cons_zero, List.set_cons_succ]
                refine any_one 8 (by kernel_rfl) ?_
                refine op_value' 177 (v := .pointer (some ⟨p, 0, none⟩)) (w' := w') rfl (by rfl) rfl (by go_simp) ⟨⟨y0, y1⟩, ?_⟩
                simp only [List.setIfInBounds_toArray, List.set_cons_zero, List.set_cons_succ]
                refine any_one 9 (by kernel_rfl) ?_
                refine op_value' 178 (v := .pointer (some ⟨p, 6, none⟩)) (w' := w') rfl (by rfl) rfl (by go_simp) ⟨⟨y0, y1⟩, ?_⟩
                simp only [List.setIfInBounds_toArray, List.set_cons_zero, List.set_cons_succ]
                refine any_one 10 (by kernel_rfl) ?_
                refine op_skip (w' := (w'.setCell ⟨p, 6, none⟩ (.slice va' (fl + 1) vc'))) rfl (by rfl) (by go_simp) ⟨⟨x0, x1⟩, ?_⟩
                refine wpAnyH_done (by kernel_rfl) ?_ _
                clear s0a s0b s0c s1a s1b s1c s1d y0 y1 x0 x1 g6 gz6 hrun HALL hS
                generalize w'.setCell ⟨p, 6, none⟩ (.slice va' (fl + 1) vc') = w3 at *
                obtain ⟨d0, d1, d2, d3, d4, d5, d6, fz4, fz5, fz6⟩ := HD3.out.cells
                have hn0 : ¬ ((n : Int) = 0) := by omega
                have hn0b : ((n : Int) == 0) = false := by simp; omega
                have hn0c : (n : Int) ≠ 0 := by omega
                have hn0d : ¬ (n = 0) := by omega
                have hmlt : put % n < n := Nat.mod_lt _ (by omega)
                have e1 : IntKind.i64.wrap (16 * (n : Int)) = 16 * (n : Int) := IntWalk.i64_in _ (by omega)
                have e2 : IntKind.i64.wrap ((base : Int) + 16 * n) = ((base + 16 * n : Nat) : Int) := by rw [IntWalk.i64_in _ (by omega)]; omega
                have e3 : IntKind.i64.wrap (((base + 16 * n : Nat) : Int) + 2) = ((base + 16 * n + 2 : Nat) : Int) := by rw [IntWalk.i64_in _ (by omega)]; omega
                have e4 : Int.tmod (put : Int) (n : Int) = ((put % n : Nat) : Int) := (Int.ofNat_tmod put n).symm
                have e5 : IntKind.i64.wrap (2 * ((put % n : Nat) : Int)) = 2 * ((put % n : Nat) : Int) := IntWalk.i64_in _ (by omega)
                have e6 : IntKind.i64.wrap (((base + 16 * n : Nat) : Int) + 4) = ((base + 16 * n : Nat) : Int) + 4 := IntWalk.i64_in _ (by omega)
                have e7 : IntKind.i64.wrap (((base + 16 * n : Nat) : Int) + 4 + 2 * ((put % n : Nat) : Int)) = ((base + 16 * n + (4 + put % n * 2) : Nat) : Int) := by rw [IntWalk.i64_in _ (by omega)]; omega
                have e10 : IntKind.i64.wrap ((put : Int) + 1) = (put : Int) + 1 := IntWalk.i64_in _ (by omega)
                have e11 : Int.tmod ((put : Int) + 1) 65536 = (((put + 1) % 65536 : Nat) : Int) := by rw [show ((put : Int) + 1) = ((put + 1 : Nat) : Int) by omega]; exact (Int.ofNat_tmod (put + 1) 65536).symm
                have hp1 : (put + 1) % 65536 < 65536 := Nat.mod_lt _ (by omega)
                have l1 : base + 16 * n + (4 + put % n * 2) + 2 ≤ len := by omega
                have l2 : base + 16 * n + 2 + 2 ≤ len := by omega
                generalize hA1 : base + 16 * n + (4 + put % n * 2) = at1 at *
                generalize hA2 : base + 16 * n + 2 = at2 at *
                generalize hRG : base + 16 * n = ring at *
                generalize hPM : put % n = pm at *
                have HRG := hid hRG
                have HPM := hid hPM
                clear hRG hPM
                generalize hP1 : (put + 1) % 65536 = put1 at *
                have HA1 := hid hA1
                have HA2 := hid hA2
                have HP1 := hid hP1
                clear hA1 hA2 hP1
                go_wp2
                go_quiet (fail)
                obtain ⟨w4, hw4⟩ : ∃ w4, w4 = w3.drewN nq := ⟨_, rfl⟩
                rw [← hw4]
                have hb4 : Below w3.heap.size w3 w4 := by rw [hw4]; exact below_drewN (Below.refl _ _) _
                clear hw4
                have HB4 := hid hb4
                replace d0 := cell_later hb4 d0
                replace d2 := cell_later hb4 d2
                replace d4 := cell_later hb4 d4
                have t0 := cell_later hb4 (box90 HB3.out).1
                have hc5 := hid (refset_any w4.drew g N len cap at1 2 _ (k0 : Int) ((HM3.out.below hb4).below (Below.refl w4.heap.size w4).drew) hle hbig l1 (by omega) (by omega) (by omega))
                clear hb4 d1 d3 d5 d6 fz4 fz5 fz6
                go_wp2
                go_region_held3 (fun w' => w'.cell? ⟨p, 0, none⟩ = some (.slice (some ⟨g, 0, none⟩) len cap) ∧ w'.cell? ⟨p, 2, none⟩ = some (.int .i64 n) ∧ w'.cell? ⟨p, 4, none⟩ = some (.int .i64 put) ∧ w'.cell? ⟨w.heap.size, 0, none⟩ = some (.int .i64 k0)) ((first | exact ⟨d0, d2, d4, t0⟩ | exact HS5.out))
                  ((go_at_call 62; refine hc5.out.mono ?_; rintro e w5 ⟨rfl, hm5, hmo5⟩; have HM5 := hid hm5; have HMO5 := hid hmo5; have HS5 := hid (And.intro (hmo5.cell (w := w4.drew) d0 (fun e => hgp e.symm)) (And.intro (hmo5.cell (w := w4.drew) d2 (fun e => hgp e.symm)) (And.intro (hmo5.cell (w := w4.drew) d4 (fun e => hgp e.symm)) (hmo5.cell (w := w4.drew) t0 (by omega))))); clear hm5 hmo5))
                have hk5 : ∀ b, b < w3.heap.size → b ≠ g → w5.heap[b]? = w3.heap[b]? := fun b hb hne => (HMO5.out.block b (show b < w4.heap.size by have := HB4.out.size; omega) hne).trans (HB4.out.block b hb)
                have HK5 := hid hk5
                have HD5 : Hid (RBox w5 p gt (.slice va' (fl + 1) vc') g len cap base n put got) := hid ((hk5 p HD3.out.lt (fun e => hgp e.symm)).trans HD3.out)
                have HMA5 := hid ((HMA3.out.below HB4.out).drew.trans HMO5.out (fun b e => .inl (.inr (.inr (.inl e)))))
                obtain ⟨d0, d1, d2, d3, d4, d5, d6, fz4, fz5, fz6⟩ := HD5.out.cells
                clear HS5 hc5 hk5 t0
                go_wp2
                have hD6 : RBox (w5.setCell ⟨p, 4, none⟩ (.int .i64 put1)) p gt (.slice va' (fl + 1) vc') g len cap base n put1 got := setc HD5.out 4 _
                have hmS : Mods (fun b => b = p) w5 (w5.setCell ⟨p, 4, none⟩ (.int .i64 put1)) := (Mods.refl (fun b => b = p) w5).setCell p 4 _ rfl
                have HM6 := hid (HM5.out.mods hmS hgp)
                have HMA6 := hid (HMA5.out.trans hmS (fun b e => .inl (.inl e)))
                have HK6 : Hid (∀ b, b < w3.heap.size → b ≠ g → b ≠ p → (w5.setCell ⟨p, 4, none⟩ (.int .i64 put1)).heap[b]? = w3.heap[b]?) := hid (fun b hb h1 h2 => (hmS.block b (by have h1 := HMO5.out.size; have h2 := HB4.out.size; have h3 : w4.heap.size ≤ w5.heap.size := h1; omega) h2).trans (HK5.out b hb h1))
                have HD6 := hid hD6
                clear d0 d1 d2 d3 d4 d5 d6 fz4 fz5 fz6
                have hz6 : w5.heap.size ≤ (w5.setCell ⟨p, 4, none⟩ (.int .i64 put1)).heap.size := hmS.size
                have hz5 : w3.heap.size ≤ w5.heap.size := by have h1 := HMO5.out.size; have h2 := HB4.out.size; have h3 : w4.heap.size ≤ w5.heap.size := h1; omega
                clear hmS hD6
                generalize w5.setCell ⟨p, 4, none⟩ (.int .i64 put1) = w6 at *
                obtain ⟨d0, d1, d2, d3, d4, d5, d6, fz4, fz5, fz6⟩ := HD6.out.cells
                have hc7 := hid (refset_any w6.drew g N len cap at2 2 _ (put1 : Int) (HM6.out.below (Below.refl w6.heap.size w6).drew) hle hbig l2 (by omega) (by omega) (by omega))
                have t6 := (box90 ((HK6.out w.heap.size (Array.getElem?_eq_some_iff.1 HB3.out).1 (by omega) (by omega)).trans HB3.out)).1
                go_region_held3 (fun w' => w'.cell? ⟨p, 0, none⟩ = some (.slice (some ⟨g, 0, none⟩) len cap) ∧ w'.cell? ⟨p, 4, none⟩ = some (.int .i64 put1)) ((first | exact ⟨d0, d4⟩ | exact HS7.out))
                  ((go_at_call 62; refine hc7.out.mono ?_; rintro e w7 ⟨rfl, hm7, hmo7⟩; have HM7 := hid hm7; have HMO7 := hid hmo7; have HS7 := hid (And.intro (hmo7.cell (w := w6.drew) d0 (fun e => hgp e.symm)) (hmo7.cell (w := w6.drew) d4 (fun e => hgp e.symm))); clear hm7 hmo7))
                have t7 := HMO7.out.cell (w := w6.drew) t6 (by omega)
                go_wp2
                go_ret2
                rw [HKE.out]
                have hk7 : ∀ b, b < w3.heap.size → b ≠ g → b ≠ p → w7.heap[b]? = w3.heap[b]? := fun b hb h1 h2 => (HMO7.out.block b (show b < w6.heap.size by omega) h1).trans (HK6.out b hb h1 h2)
                refine ⟨rfl, HMA6.out.drew.trans HMO7.out (fun b e => .inl (.inr (.inr (.inl e)))), ?_, .slice va' (fl + 1) vc', .slice (some ⟨vb, 0, none⟩) m vc, ?_, HT3.out.keep (hk7 gt HT3.out.lt (fun e => hggt e.symm) hgtp), ?_, ?_, ?_, HOV.out⟩
                · rw [HRG.out, HPM.out, HA1.out, HA2.out, HP1.out]
                  exact HM7.out
                · rw [HP1.out]
                  exact (HMO7.out.block p (show p < w6.heap.size from HD6.out.lt) (fun e => hgp e.symm)).trans HD6.out
                · refine owns_keep HFR3.out (fun b hb => hk7 b (owns_lt HFR3.out hb).1 ?_ ?_)
                  · intro e
                    rcases HOV.out b hb with h | h
                    · exact (HVFB.out b h).2.2.2 e
                    · omega
                  · intro e
                    rcases HOV.out b hb with h | h
                    · exact (HVFB.out b h).2.1 e
                    · omega
                · refine HIR3.out.keep (fun b hb => ?_)
                  have e : vb = b := by simpa [Value.ownBlock] using hb
                  subst e
                  exact hk7 vb (HIR3.out.lt hb) (by omega) (by omega)
                · intro b hb
                  have e : vb = b := by simpa [Value.ownBlock] using hb
                  omega
end Go.Proofs.YtdjghkngiicncaaGreat
