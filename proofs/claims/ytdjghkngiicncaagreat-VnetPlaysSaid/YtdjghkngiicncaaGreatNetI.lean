/- vnet: Deliver. -/
import Derived.Test.YtdjghkngiicncaaGreatNetH
import Derived.Laws.CopyRow
namespace Go.Proofs.YtdjghkngiicncaaGreat
open Go.RowKit

theorem copy_run (w : World) (ty : TypeId) (g N p n m dCap r sCap : Nat) (f : Nat → Int) (L : List Int)
    (hm : Mem w g N f) (hr : Blk w r L) (hL : L.length = m) (hmn : m ≤ n) (hp : p + m ≤ N) (hB : ∀ x ∈ L, IsB x) :
    ∃ w', (Builtin.copy_ #[25, 25] ty #[.slice (some ⟨g, p, none⟩) n dCap, .slice (some ⟨r, 0, none⟩) m sCap]).run Tryz.prog w = .ok (goInt m) w' ∧ Mem w' g N (puts f p L) ∧ Mods (fun b => b = g) w w' := by
  obtain ⟨⟨cur, hg, hcn, hcur⟩, hBf⟩ := hm
  have hlen : (L.map fun x => Value.int .u8 x).length = m := by rw [List.length_map, hL]
  have hrun := run_copy_row (P := Tryz.prog) w 25 25 ty 5 g p n dCap ⟨r, 0, none⟩ m sCap cur 5 (L.map fun x => Value.int .u8 x) Tryz.underlying25 size5 hg (by rw [hlen]; first | exact (Nat.min_eq_right hmn).symm | exact (Nat.min_eq_left hmn).symm) (fun j u hj => by
    have hj2 : j < m := by have := (List.getElem?_eq_some_iff.1 hj).1; rwa [hlen] at this
    have e : (⟨r, 0, none⟩ : Addr).add j = ⟨r, 0 + j, none⟩ := by unfold Addr.add; split <;> simp_all
    rw [e, Nat.zero_add, Mem.cell hr (by rw [hL]; exact hj2)]
    rw [List.getElem?_map] at hj
    simp only [Option.map_eq_some_iff] at hj
    obtain ⟨x, hx, rfl⟩ := hj
    simp [List.getD, hx]) (by rw [hlen]; omega) (fun u hu => by simp only [List.mem_map] at hu; obtain ⟨y, _, rfl⟩ := hu; rfl)
  rw [hlen] at hrun
  refine ⟨_, hrun, ⟨⟨_, setRow_heap w g _ _ 5 _ hg, by simp [hL]; omega, fun i hi => ?_⟩, puts_isB hBf hB⟩, ⟨rfl, rfl, rfl, by simp [World.setRow], fun b _ hb => setRow_other w g b _ hb⟩⟩
  have h5 := hcur i hi
  simp only [List.getElem?_toArray, List.append_assoc]
  unfold puts
  rw [hL]
  by_cases h6 : p ≤ i
  · by_cases h7 : i < p + m
    · rw [if_pos ⟨h6, h7⟩, List.getElem?_append_right (by simp; omega), List.getElem?_append_left (by simp [hL]; omega)]
      have : min p cur.size = p := by omega
      simp only [List.length_take, Array.length_toList, this, List.getElem?_map]
      rw [show L[i - p]? = some (L.getD (i - p) 0) by simp [List.getD, hL, show i - p < m by omega]]
      rfl
    · rw [if_neg (by omega), List.getElem?_append_right (by simp; omega), List.getElem?_append_right (by simp [hL]; omega)]
      have e1 : min p cur.size = p := by omega
      have e2 : p + m + (i - p - m) = i := by omega
      simp [e1, hL, e2, h5]
  · rw [if_neg (by omega), List.getElem?_append_left (by simp; omega), List.getElem?_take]
    simp [show i < p by omega, h5]
theorem step_copy {P : Program} {ops : Array Oper} {o : Oper} {a : Act} {w : World} {K : Act → World → Prop} {Q : Exit → Act → World → Prop} {E : Prop} (hgd : o.guard = none) (s x : Operand) (t : TypeId)
    (ho : o.op = .call { callee := .builtin .copy, args := #[s, x], argTypes := #[t, t] }) {v y v' : Value} {w' : World} (hs : a.eval s = v) (hx : a.eval x = y)
    (hrun : (Builtin.copy_ #[t, t] o.type #[v, y]).run P w = .ok v' w') (h : K (a.put o.dst v') w') :
    if Region.wanted o (yielded ops a.tmps) = true then Oper.wp P o a w K Q else E := by
  have hw : Region.wanted o (yielded ops a.tmps) = true := by simp [Region.wanted, hgd]
  rw [if_pos hw]
  unfold Oper.wp execOp
  simp only [ho, resolve, invoke, builtin, Sem.run_bind, Sem.run_pure, Result.andThen_ok, List.map_toArray, List.map_cons, List.map_nil, hs, hx, hrun]
  exact h

theorem takeS_A (q : Qu) (S : Sd) : (takeS q S).A = S.A := by unfold takeS; split <;> rfl
theorem giveS_A (q : Qu) (S : Sd) (hd len : Int) : (giveS q S hd len).A = S.A := by unfold giveS; split <;> rfl
theorem nextN_A (q : Qu) (P : Bf → Bool) : ∀ (k : Nat) (S : Sd), (nextN q P k S).1.A = S.A
  | 0, _ => rfl
  | k + 1, S => by
    rw [nextN]
    split
    · rw [nextN_A q P k, takeS_A]
    · split
      · exact takeS_A q S
      · rw [nextN_A q P k, giveS_A, takeS_A]
def delN (H : Nh) (S : Ns) (len : Nat) : Sd × Option (Int × Bf) := nextS H.qi (inP (12 + len : Nat)) S.i
def delT (H : Nh) (L : List Int) : Sd × Option (Int × Bf) → Int × Sd
  | (T, none) => (7, T)
  | (T, some (hd, b)) => (0, giveS H.qi { T with f := puts T.f b.addr.toNat (rowL L) } hd (12 + L.length : Nat))
def delR (H : Nh) (S : Ns) (L : List Int) : Int := if frB L.length then (delT H L (delN H S L.length)).1 else 14
def delS (H : Nh) (S : Ns) (L : List Int) : Ns := if frB L.length then S.setI (delT H L (delN H S L.length)).2 else S

set_option maxRecDepth 100000 in
set_option maxHeartbeats 4000000 in
theorem Deliver_any (w : World) (lab : Nat → Nat) (H : Nh) (S : Ns) (c : Nat) (hn : Net w lab H S c) (ad : Option Addr) (cap len : Nat) (L : List Int) (hB : Bytes w ad L) (hln : L.length = len) :
    Calls Tryz.prog 16 #[.pointer (some ⟨H.pp, 0, none⟩), .slice ad len cap] w fun e w' => e = .returned (.int .i64 (delR H S L)) ∧ Net w' lab H (delS H S L) c ∧ Keep lab w lab w' := by
  have HFRM := hid (isFrame_any w len)
  unfold delR delS
  rw [hln]
  obtain ⟨p0, p1, _, _⟩ := hn.portCells
  have HN := hid hn
  cases hfr : frB (len : Int) with
  | false =>
    have HF := hid hfr
    simp only [Bool.false_eq_true, if_false]
    clear hfr hn hB
    rw [HF.out] at HFRM
    go_enter Tryz.func16, Tryz.ntmps16
    go_wp2_with (go_at_call 31; refine HFRM.out.mono ?_; rintro e w1 ⟨rfl, rfl⟩)
    go_ret
    exact ⟨rfl, HN.out, Keep.refl _ _⟩
  | true =>
    obtain ⟨h14, h15⟩ := frB_iff.1 hfr
    rw [hfr] at HFRM
    simp only [if_true]
    have HFR := hid (framed_any w ad cap len L hB hln h14 h15)
    obtain ⟨rl, hrl⟩ : ∃ rl, rl = 12 + len := ⟨_, rfl⟩
    have HRL := hid hrl
    have HLB : Hid (∀ x ∈ rowL L, IsB x) := hid (rowL_isB hB.isB)
    have HLN : Hid ((rowL L).length = rl) := hid (by rw [rowL_len, hln, hrl])
    have HLL := hid hln
    rw [← hrl] at HFR
    have hrl26 : 26 ≤ rl ∧ rl ≤ 1526 := by omega
    have hdn : delN H S len = nextS H.qi (inP rl) S.i := by unfold delN; rw [← hrl]
    rw [hdn]
    have HGL : Hid (H.g < w.heap.size ∧ H.vi < w.heap.size) := hid ⟨hn.mem.lt, hn.vi.lt⟩
    clear hn hB hln hfr hdn hrl h14 h15
    have HNX : Hid (∀ w3 rb rc, Below w.heap.size w w3 → Calls Tryz.prog 45 #[devV H.vi H.g H.N, .func (.func 46) #[] #[.pointer (some ⟨w3.heap.size, 0, none⟩)]] (w3.alloc (.cells #[.slice (some ⟨rb, 0, none⟩) rl rc] 25)) fun e w' => NextPost H.qi (inP rl) e (nextS H.qi (inP rl) S.i).2 ∧ Dev w' H.vi H.qi (nextS H.qi (inP rl) S.i).1.o (nextS H.qi (inP rl) S.i).1.u ∧ Mem w' H.g H.N (nextS H.qi (inP rl) S.i).1.f ∧ Mods (fun b => b = H.vi ∨ b = H.g) (w3.alloc (.cells #[.slice (some ⟨rb, 0, none⟩) rl rc] 25)) w') := hid (fun w3 rb rc h3 => by
      have hb : Below w.heap.size w (w3.alloc (.cells #[.slice (some ⟨rb, 0, none⟩) rl rc] 25)) := h3.alloc h3.size _
      have h4 := HN.out.below hb
      have h5 := HGL.out
      have h6 := h3.size
      exact next_in _ H.vi H.qi S.i w3.heap.size (some ⟨rb, 0, none⟩) rl rc h4.vi h4.mem h4.oki (new_cell w3 _ _ _ 0 (by simp)) (by omega) (by show w3.heap.size ≠ H.g; omega) hrl26.1)
    have HTA : Hid ((nextS H.qi (inP rl) S.i).1.A = S.Ai) := hid (nextN_A _ _ _ _)
    generalize hR : nextS H.qi (inP rl) S.i = R at *
    clear hR
    unfold devV at HNX
    obtain ⟨T, ro⟩ := R
    simp only at HNX HTA
    cases ro with
    | none =>
      simp only [NextPost] at HNX
      go_enter Tryz.func16, Tryz.ntmps16
      go_wp2_with (first
        | (go_at_call 31; refine HFRM.out.mono ?_; rintro e w1 ⟨rfl, hw1⟩; rw [hw1]; clear hw1)
        | (go_at_call 44; refine HFR.out.mono ?_; rintro e w3 ⟨rb, rc, rfl, hrb, hrc, hbk, hb3⟩; have HRB := hid hrb; have HBK := hid hbk; have HB3 := hid hb3; replace p0 := cell_later (hb3.alloc hb3.size (.cells #[.slice (some ⟨rb, 0, none⟩) rl rc] 25)) p0; replace p1 := cell_later (hb3.alloc hb3.size (.cells #[.slice (some ⟨rb, 0, none⟩) rl rc] 25)) p1; clear hrb hbk hb3)
        | (go_at_call 45; refine (HNX.out w3 rb rc HB3.out).mono ?_; rintro e w5 ⟨rfl, hd5, hm5, hmo5⟩; have HD5 := hid hd5; have HM5 := hid hm5; have HMO5 := hid hmo5; clear hd5 hm5 hmo5))
      go_ret
      have hk5 := (HN.out.below (HB3.out.alloc HB3.out.size (.cells #[.slice (some ⟨rb, 0, none⟩) rl rc] 25))).toVI HD5.out HM5.out HMO5.out
      refine ⟨rfl, ?_, (Keep.below (HB3.out.alloc HB3.out.size (.cells #[.slice (some ⟨rb, 0, none⟩) rl rc] 25))).trans hk5.2⟩
      have he : S.setI (delT H L (T, none)).2 = { S with oi := T.o, ui := T.u, f := T.f } := by show S.setI T = _; unfold Ns.setI; rw [HTA.out]
      rw [he]
      exact hk5.1
    | some r =>
      obtain ⟨hd, bx1, bx2, bx3⟩ := r
      simp only [NextPost] at HNX
      go_enter Tryz.func16, Tryz.ntmps16
      go_wp2_with (first
        | (go_at_call 31; refine HFRM.out.mono ?_; rintro e w1 ⟨rfl, hw1⟩; rw [hw1]; clear hw1)
        | (go_at_call 44; refine HFR.out.mono ?_; rintro e w3 ⟨rb, rc, rfl, hrb, hrc, hbk, hb3⟩; have HRB := hid hrb; have HBK := hid hbk; have HB3 := hid hb3; replace p0 := cell_later (hb3.alloc hb3.size (.cells #[.slice (some ⟨rb, 0, none⟩) rl rc] 25)) p0; replace p1 := cell_later (hb3.alloc hb3.size (.cells #[.slice (some ⟨rb, 0, none⟩) rl rc] 25)) p1; clear hrb hbk hb3)
        | (go_at_call 45; refine (HNX.out w3 rb rc HB3.out).mono ?_; rintro e w5 ⟨⟨x, y, hx, hy, rfl, hxy, hP, hy0, hy1, hh0, hhn⟩, hd5, hm5, hmo5⟩; have HX := hid hx; have HY := hid hy; have HPP := hid hP; have HXY := hid hxy; have HD5 := hid hd5; have HM5 := hid hm5; have HMO5 := hid hmo5; clear hx hy hP hd5 hm5 hmo5 hxy))
      have hk5 := (HN.out.below (HB3.out.alloc HB3.out.size (.cells #[.slice (some ⟨rb, 0, none⟩) rl rc] 25))).toVI HD5.out HM5.out HMO5.out
      have hry : rl ≤ y := by have h1 := HPP.out; have h2 := HY.out; simp [inP] at h1; omega
      have hgl := HGL.out
      have hrbs := HRB.out
      have hs3 := HB3.out.size
      have hsr : rb < w3.heap.size := HBK.out.lt
      have hb5 : Blk w5 rb (rowL L) := (HBK.out.below ((Below.refl _ w3).alloc (Nat.le_refl _) _)).mods HMO5.out (fun e => by rcases e with e | e <;> omega)
      have hc5 : w5.cell? ⟨w3.heap.size, 0, none⟩ = some (.slice (some ⟨rb, 0, none⟩) rl rc) := HMO5.out.cell (new_cell w3 _ _ _ 0 (by simp)) (fun e => by rcases e with e | e <;> omega)
      have p5 := hk5.1.portCells.1
      obtain ⟨w6, hr6, hm6, hmo6⟩ := copy_run w5.drew 3 H.g H.N x y rl y rb rc T.f (rowL L) HM5.out hb5 HLN.out hry (by have h1 := HXY.out; omega) HLB.out
      have hne : H.vi ≠ H.g := hk5.1.vi.2.2.2
      have hn6 := hk5.1.toVI (hk5.1.vi.keep ((((Mods.refl (fun b => b = H.g) w5).drew).tr hmo6).block H.vi hk5.1.vi.lt hne)) hm6 ((((Mods.refl (fun b => b = H.g) w5).drew).tr hmo6).weak (fun b e => .inl (.inr e)))
      have p6 := hn6.1.portCells.1
      have hc6 : w6.cell? ⟨w3.heap.size, 0, none⟩ = some (.slice (some ⟨rb, 0, none⟩) rl rc) := hmo6.cell (w := w5.drew) hc5 (fun e => by omega)
      have HK5 := hid hk5
      have HN6 := hid hn6
      have HGV := hid (Give_S w6 H.vi H.qi { T with f := puts T.f x (rowL L) } hn6.1.vi hn6.1.mem hd rl ⟨by omega, by omega⟩)
      have HGR : Hid (giveR H.qi hd rl = 0) := hid (by unfold giveR; rw [if_pos]; simp [giveB, lenB]; omega)
      rw [HGR.out] at HGV
      have HS6 : Hid (w6.cell? ⟨H.pp, 0, none⟩ = some (.pointer (some ⟨H.vi, 0, none⟩)) ∧ w6.cell? ⟨w3.heap.size, 0, none⟩ = some (.slice (some ⟨rb, 0, none⟩) rl rc)) := hid ⟨p6, hc6⟩
      have HPG : Hid (H.pp ≠ H.vi ∧ H.pp ≠ H.g) := hid ⟨fun e => by have h1 := HN.out.l7; have h2 := HN.out.l3; rw [e] at h1; omega, fun e => by have h1 := HN.out.l7; have h2 := HN.out.l5; rw [e] at h1; omega⟩
      have HWW : Hid (w3.heap.size ≠ H.vi ∧ w3.heap.size ≠ H.g) := hid (by omega)
      clear hk5 hb5 hn6 hm6 hmo6 p6 hc6 hne p0 p1
      go_region_held3 (fun w' => w'.cell? ⟨H.pp, 0, none⟩ = some (.pointer (some ⟨H.vi, 0, none⟩)) ∧ w'.cell? ⟨w3.heap.size, 0, none⟩ = some (.slice (some ⟨rb, 0, none⟩) rl rc)) ((first | exact ⟨p5, hc5⟩ | exact HS6.out | exact HS7.out))
        ((first
          | (refine step_copy rfl (.tmp 33) (.tmp 34) 25 rfl rfl rfl hr6 ?_; simp only [goInt])
          | (go_at_call 47; refine HGV.out.mono ?_; rintro e w7 ⟨rfl, hd7, hm7, hmo7⟩; have HD7 := hid hd7; have HM7 := hid hm7; have HMO7 := hid hmo7; have HS7 := hid (And.intro (hmo7.cell HS6.out.1 (fun e => e.elim HPG.out.1 HPG.out.2)) (hmo7.cell HS6.out.2 (fun e => e.elim HWW.out.1 HWW.out.2))); clear hd7 hm7 hmo7)))
      go_wp2
      go_ret
      have h8 := HN6.out.1.toVI HD7.out HM7.out HMO7.out
      refine ⟨rfl, ?_, ((Keep.below (HB3.out.alloc HB3.out.size (.cells #[.slice (some ⟨rb, 0, none⟩) rl rc] 25))).trans HK5.out.2).trans (HN6.out.2.trans h8.2)⟩
      have hx : bx1.toNat = x := by have := HX.out; omega
      have he : S.setI (delT H L (T, some (hd, ⟨bx1, bx2, bx3⟩))).2 = { S with oi := (giveS H.qi { T with f := puts T.f x (rowL L) } hd rl).o, ui := (giveS H.qi { T with f := puts T.f x (rowL L) } hd rl).u, f := (giveS H.qi { T with f := puts T.f x (rowL L) } hd rl).f } := by
        simp only [delT]
        rw [HLL.out, ← HRL.out, hx]
        unfold Ns.setI
        rw [giveS_A, ← HTA.out]
      rw [he]
      exact h8.1
end Go.Proofs.YtdjghkngiicncaaGreat
