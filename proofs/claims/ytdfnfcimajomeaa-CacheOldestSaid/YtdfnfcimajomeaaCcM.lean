/- CacheOldest: of blocks that are clean and not pinned the one that was used longest ago is let go. -/
import Derived.Test.YtdfnfcimajomeaaCcQ
namespace Go.Proofs.Ytdfnfcimajomeaa
open Go.RowKit Go.Maps

/-- The entries of the numbers l, all clean. -/
def ol (d : List Int) (l : List Int) : List Ec := l.map fun x => ⟨x, d, false, 0⟩
theorem nums_ol (d : List Int) (l : List Int) : nums (ol d l) = l := by unfold nums ol; rw [List.map_map]; exact List.map_id' l
theorem ol_len (d : List Int) (l : List Int) : (ol d l).length = l.length := by simp [ol]
theorem ol_app (d : List Int) (l m : List Int) : ol d (l ++ m) = ol d l ++ ol d m := by simp [ol]
theorem wo_ol (d : List Int) (l : List Int) (k : Int) : wo (ol d l) k = ol d (l.filter fun x => decide (x ≠ k)) := by unfold wo ol; rw [List.filter_map]; rfl
theorem ol_at (d : List Int) (l : List Int) (k : Int) (h : k ∈ l) : atL (ol d l) k = ⟨k, d, false, 0⟩ := by
  have hm : k ∈ nums (ol d l) := by rw [nums_ol]; exact h
  obtain ⟨h1, h2⟩ := atL_mem hm
  unfold ol at h1
  obtain ⟨x, _, e⟩ := List.mem_map.1 h1
  have e' : (⟨x, d, false, 0⟩ : Ec) = atL (ol d l) k := e
  have : x = k := by rw [← h2, ← e']
  rw [this] at e'
  exact e'.symm
/-- Numbers that may be held: each once, no more than n. -/
def Og (N : Nat) (l : List Int) : Prop := l.Nodup ∧ l.length ≤ N
def rst (l : List Int) (k : Int) : List Int := l.filter fun x => decide (x ≠ k)
theorem rst_no {l : List Int} {k : Int} (h : k ∉ l) : rst l k = l := by
  unfold rst
  rw [List.filter_eq_self]
  intro x hx
  simp
  intro e
  rw [e] at hx
  exact h hx
theorem rst_lt {l : List Int} {k : Int} (h : k ∈ l) : (rst l k).length < l.length := by
  unfold rst
  rw [List.length_filter_lt_length_iff_exists]
  exact ⟨k, h, by simp⟩
theorem rst_nd {l : List Int} {k : Int} (h : l.Nodup) : (rst l k ++ [k]).Nodup := by
  rw [List.nodup_append]
  refine ⟨h.filter _, by simp, fun a ha b hb e => ?_⟩
  simp at hb
  rw [e, hb] at ha
  simp [rst] at ha
theorem rst_take {l : List Int} {k : Int} {j : Nat} (h : j < l.length) : rst (l.take (j + 1)) k = if l.getD j 0 = k then rst (l.take j) k else rst (l.take j) k ++ [l.getD j 0] := by
  unfold rst
  rw [List.take_succ_eq_append_getElem h, List.filter_append]
  simp only [List.getD, List.getElem?_eq_getElem h, Option.getD_some]
  split
  · rename_i e; simp [e]
  · rename_i e; simp [e]
theorem ol_use (d : List Int) (N : Nat) (l : List Int) (k : Int) (h : k ∈ l) : (Cs.mk N (ol d l)).use k = ⟨N, ol d (rst l k ++ [k])⟩ := by
  unfold Cs.use Cs.at
  simp only
  rw [wo_ol, ol_at d l k h, ol_app]
  rfl
theorem nd_tail {l : List Int} (h : l.Nodup) : l.tail.Nodup := by cases l with
  | nil => simp
  | cons x r => exact (List.nodup_cons.1 h).2
theorem ol_room (d : List Int) (N : Nat) (l : List Int) (hn : l.Nodup) (h0 : 0 < l.length) (h : l.length = N) : (Cs.mk N (ol d l)).room = some ⟨N, ol d l.tail⟩ := by
  unfold Cs.room
  rw [if_neg (by rw [ol_len]; show ¬ (l.length < N); omega)]
  cases l with
  | nil => simp at h0
  | cons x r =>
    have : (ol d (x :: r)).find? may = some ⟨x, d, false, 0⟩ := rfl
    simp only [this, Option.map_some]
    unfold Cs.cut
    simp only
    rw [wo_ol]
    congr 3
    simp only [List.tail_cons]
    rw [List.filter_cons_of_neg (by simp), List.filter_eq_self]
    intro y hy
    simp
    intro e
    rw [e] at hy
    exact (List.nodup_cons.1 hn).1 hy
theorem ol_room' (d : List Int) (N : Nat) (l : List Int) (h : l.length < N) : (Cs.mk N (ol d l)).room = some ⟨N, ol d l⟩ := by
  unfold Cs.room
  rw [if_pos (by rw [ol_len]; exact h)]
theorem ol_fill (d : List Int) (hd : d.length = 512) (N : Nat) (l l1 : List Int) (k : Int) (h0 : 0 ≤ k) (hk : k ∉ l) (hr : (Cs.mk N (ol d l)).room = some ⟨N, ol d l1⟩) : fillR ⟨N, ol d l⟩ k 512 = 0 ∧ fillS ⟨N, ol d l⟩ k d = ⟨N, ol d (l1 ++ [k])⟩ := by
  obtain ⟨h1, h2⟩ := fill_ok (A := ⟨N, ol d l⟩) h0 (by rw [nums_ol]; exact hk) hr d hd
  refine ⟨h1, h2.trans ?_⟩
  rw [ol_app]
  rfl
set_option maxRecDepth 100000 in
set_option maxHeartbeats 16000000 in
theorem Oldest_any (w0 : World) (x : Int) (au : Option Addr) (us : List Int) (cap ln : Nat) (hus : Ints w0 au us) (hln : us.length = ln) (hl : ln ≤ maxLen) :
    Calls Try.prog 6 #[.int .i64 x, .slice au ln cap] w0 fun e w' => e = .returned (.bool true) ∧ Below w0.heap.size w0 w' := by
  have HKN := hid (known_any w0)
  obtain ⟨N, hN, hN1, hN2⟩ : ∃ N : Nat, 1 + wi x 12 = (N : Int) ∧ 1 ≤ N ∧ N ≤ 12 := by
    have := wi_bd x 12 (by omega)
    exact ⟨(1 + wi x 12).toNat, by omega, by omega, by omega⟩
  have HW1 : Hid (∀ w : World, Calls Try.prog 16 #[.int .i64 x, .int .i64 12] w fun e w' => e = .returned (.int .i64 (wi x 12)) ∧ w' = w) := hid (fun w => within_any x 12 (by omega) (by omega) w)
  have hwr : IntKind.i64.wrap (1 + wi x 12) = (N : Int) := by rw [hN]; exact IntWalk.i64_in _ (by omega)
  have HUS := hid hus
  have HLN := hid hln
  have hlm : (ln : Int) ≤ 9223372036854775807 := by unfold maxLen at hl; omega
  have hmk := make512
  clear hN hus hln hl
  generalize wi x 12 = wx at *
  go_enter Try.func6, Try.ntmps6
  go_wp2_with fail
  refine HKN.out.mono ?_
  rintro e w1 ⟨rfl, hb1⟩
  have HB1 := hid hb1
  clear hb1
  go_wp2_with fail
  refine (HW1.out w1).mono ?_
  rintro e w2 ⟨rfl, hw2⟩
  rw [hw2]
  clear hw2
  go_wp2_with fail
  refine (New_ok w1 N hN1 (by omega)).mono ?_
  rintro e w2 ⟨p, S, rfl, hc, hb, hl⟩
  obtain ⟨d, hbk, hv⟩ := (⟨hc, HB1.out.trans (hb.mono HB1.out.size), fun b hb2 => Nat.le_trans HB1.out.size (hl b hb2)⟩ : Hv w0 w2 p S ⟨N, []⟩ 0).made
  have HBK := hid hbk
  have HV := hid hv
  have HL := hid hbk.len
  clear hc hb hl hbk hv
  go_wp2_with fail
  go_loopw [8, 9] (fun v z wr => ∃ (i : Nat) (L : List Int) (S1 : Nat → Prop), i ≤ 100 ∧ i ≤ ln ∧ z = .int .i64 i ∧ Hv w0 wr p S1 ⟨N, ol d L⟩ i ∧ Bk w0 wr S1 w2.heap.size d ∧ Lq w0 wr S1 v L ∧ (∀ b, blk v = some b → b ≠ w2.heap.size) ∧ Og N L) (fun _ z _ => ln - (RowKit.intOf z).toNat)
  case atStart => exact ⟨0, [], S, by omega, by omega, rfl, HV.out, HBK.out, Lq.nil _ _ _, fun b e => by simp [blk] at e, by simp [Og]⟩
  case round =>
    obtain ⟨i, L, S1, hi100, hiln, rfl, hv1, hk1, hq1, hnb1, hog1⟩ := hrel
    have HV1 := hid hv1
    have HK1 := hid hk1
    have HQ1 := hid hq1
    have HNB1 := hid hnb1
    have HOG1 := hid hog1
    obtain ⟨a8, c8, e8⟩ := hq1.1.shape
    subst e8
    clear hv1 hk1 hq1 hnb1 hog1 HV HBK
    by_cases hlt : i < ln ∧ i < 100
    · have hi1 : (i : Int) < ln := by omega
      have hi2 : (i : Int) < 100 := by omega
      obtain ⟨bu, ou, hau, hcu, _⟩ := HUS.out i (by rw [HLN.out]; omega)
      subst hau
      replace hcu := cell_later HV1.out.bel hcu
      obtain ⟨k, hk, hk20⟩ : ∃ k : Nat, wi (us.getD i 0) 20 = (k : Int) ∧ k < 20 := by
        have := wi_bd (us.getD i 0) 20 (by omega)
        exact ⟨(wi (us.getD i 0) 20).toNat, by omega, by omega⟩
      have HWK : Hid (∀ w : World, Calls Try.prog 16 #[.int .i64 (us.getD i 0), .int .i64 20] w fun e w' => e = .returned (.int .i64 k) ∧ w' = w) := hid (fun w => by rw [← hk]; exact within_any _ 20 (by omega) (by omega) w)
      clear hk
      generalize us.getD i 0 = uv at *
      have ik : IsI (k : Int) := isI_of (by omega) (by omega)
      have hLN : L.length ≤ 12 := Nat.le_trans HOG1.out.2 hN2
      obtain ⟨lL, hlL⟩ : ∃ lL, lL = L.length := ⟨_, rfl⟩
      rw [← hlL] at hLN ⊢
      have HLL := hid hlL
      clear hlL
      go_wp2_with fail
      refine (HWK.out wr).mono ?_
      rintro e w3 ⟨rfl, hw3⟩
      rw [hw3]
      clear hw3
      go_wp2_with fail
      by_cases hkL : (k : Int) ∈ L
      · refine (Get_has HV1.out.ca k ik (by rw [nums_ol]; exact hkL)).mono ?_
        rintro e w4 ⟨v4, S4, rfl, h4, hk4, h4t⟩
        rw [ol_use d N L k hkL] at h4
        obtain ⟨a4, c4, e4⟩ := owns_slice h4t.1
        subst e4
        have HV4 := hid (HV1.out.step h4 hk4)
        have HK4 := hid (HK1.out.keep hk4)
        have HQ4 := hid (HQ1.out.keep hk4)
        rw [← HLL.out] at HQ4
        rw [← HLL.out] at HNB1
        clear h4 hk4 h4t HV1 HK1 HQ1
        generalize hld : ((Cs.mk N (ol d L)).at (k : Int)).dat.length = ld at *
        clear hld
        go_wp2_with fail
        go_loopw [13, 14] (fun v z wq => ∃ (j : Nat), j ≤ lL ∧ z = .int .i64 j ∧ Hv w0 wq p S4 ⟨N, ol d (rst L k ++ [(k : Int)])⟩ i ∧ Bk w0 wq S4 w2.heap.size d ∧ Lq w0 wq S4 (.slice a8 lL c8) L ∧ Lq w0 wq S4 v (rst (L.take j) k) ∧ (∀ b, blk v = some b → b ≠ w2.heap.size ∧ blk (.slice a8 lL c8) ≠ some b)) (fun _ z _ => lL - (RowKit.intOf z).toNat)
        case atStart => exact ⟨0, by omega, rfl, HV4.out, HK4.out, HQ4.out, by simpa [rst] using Lq.nil w0 w4 S4, fun b e => by simp [blk] at e⟩
        case round =>
          obtain ⟨j, hj, rfl, hv5, hk5, hq5, hr5, hnb5⟩ := hrel
          obtain ⟨w5, hw5⟩ : ∃ w5, w5 = wr := ⟨_, rfl⟩
          rw [← hw5] at hv5 hk5 hq5 hr5 ⊢
          clear hw5 wr
          have HV5 := hid hv5
          have HK5 := hid hk5
          have HQ5 := hid hq5
          have HR5 := hid hr5
          have HNB5 := hid hnb5
          obtain ⟨a13, c13, e13⟩ := hr5.1.shape
          subst e13
          clear hv5 hk5 hq5 hr5 hnb5 HV4 HK4 HQ4
          have hr13 : (rst (L.take j) k).length ≤ 12 := Nat.le_trans (List.length_filter_le _ _) (by rw [List.length_take]; omega)
          by_cases hjl : j < lL
          · have hji : (j : Int) < lL := by omega
            obtain ⟨b8, o8, cp8, e8, _, hc8⟩ := HQ5.out.1.open_ (by have := HLL.out; omega)
            simp only [Value.slice.injEq] at e8
            obtain ⟨rfl, q1, q2⟩ := e8
            clear q1 q2
            have hcj := hc8 j (by have := HLL.out; omega)
            have HRT := hid (rst_take (l := L) (k := (k : Int)) (j := j) (by have := HLL.out; omega))
            clear hc8
            obtain ⟨a14, n14, c14, w6, hap, hq6, hn6, hm6, hv6⟩ := HR5.out.push HV5.out.ca.lt HV5.out.bel.size (by omega) (L.getD j 0)
            have HV6 := hid (HV5.out.outside hm6 (fun b e => (HR5.out.2 b e).1) (fun b e => (HR5.out.2 b e).2))
            have HK6 := hid (HK5.out.mods hm6 (fun e => (HNB5.out _ e).1 rfl))
            have HQ6 := hid (HQ5.out.mods hm6 (fun b e e2 => (HNB5.out b e2).2 e))
            have HR6 := hid hq6
            have HNB6 : Hid (∀ b, blk (.slice a14 n14 c14) = some b → b ≠ w2.heap.size ∧ blk (.slice (some ⟨b8, o8, none⟩) lL c8) ≠ some b) := hid (fun b e => by
              rcases hv6 b e with e2 | e2
              · exact HNB5.out b e2
              · exact ⟨by have := HK5.out.lt; omega, fun e3 => by have := HQ5.out.1.lt e3; omega⟩)
            clear hq6 hm6 hv6 hn6
            generalize (rst (L.take j) k).length = l13 at *
            generalize L.getD j 0 = xj at *
            by_cases hxk : xj = (k : Int)
            · subst hxk
              have HRT2 := hid (HRT.out.trans (if_pos rfl))
              clear HRT hap
              go_wp2_with fail
              go_roundw
              case rel => exact ⟨j + 1, by omega, by go_num, HV5.out, HK5.out, HQ5.out, by rw [HRT2.out]; exact HR5.out, HNB5.out⟩
              case measure => simp [RowKit.intOf]; omega
            · have hxk2 : (xj != (k : Int)) = true := by rw [bne_iff_ne]; exact hxk
              have HRT2 := hid (HRT.out.trans (if_neg hxk))
              clear HRT
              go_wp2_with (at_builtin; refine wpList_append_run rfl _ _ 35 rfl rfl rfl hap ?_)
              go_roundw
              case rel => exact ⟨j + 1, by omega, by go_num, HV6.out, HK6.out, HQ6.out, by rw [HRT2.out]; exact HR6.out, HNB6.out⟩
              case measure => simp [RowKit.intOf]; omega
          · have hji : ¬ ((j : Int) < lL) := by omega
            have hjL : L.take j = L := List.take_of_length_le (by have := HLL.out; omega)
            rw [hjL] at HR5 hr13 HNB5 ⊢
            clear hjL
            have hlt2 : (rst L k).length < lL := by have := rst_lt hkL; have := HLL.out; omega
            have hlt3 : (((rst L k).length : Nat) : Int) < (lL : Int) := by omega
            have HRL : Hid ((rst L k).length ≤ 12) := hid hr13
            have HV6 := HV5
            have HBK6 := HK5
            have HQR := HR5
            have HNB : Hid (∀ b, blk (.slice a13 (rst L k).length c13) = some b → b ≠ w2.heap.size) := hid (fun b e => (HNB5.out b e).1)
            have HOG : Hid (Og N (rst L k ++ [(k : Int)])) := hid ⟨rst_nd HOG1.out.1, by have := HOG1.out.2; have := HLL.out; simp; omega⟩
            clear hr13
            have HL13 : Hid (∀ z, z = (rst L k).length → z ≤ 12) := hid (fun z e => by rw [e]; exact HRL.out)
            obtain ⟨a9, n9, c9, w9, hap, hq9, hn9, hm9, hv9⟩ := HQR.out.push HV6.out.ca.lt HV6.out.bel.size (by have := HRL.out; omega) (k : Int)
            have H9 := hid (HV6.out.outside hm9 (fun b e => (HQR.out.2 b e).1) (fun b e => (HQR.out.2 b e).2))
            have HBK9 := hid (HBK6.out.mods hm9 (fun e => HNB.out _ e rfl))
            have HQ9 := hid hq9
            have HNB9 : Hid (∀ b, blk (.slice a9 n9 c9) = some b → b ≠ w2.heap.size) := hid (fun b e => by
              rcases hv9 b e with e2 | e2
              · exact HNB.out b e2
              · have := HBK6.out.lt; omega)
            have HN9 := hid hn9
            clear hq9 hm9 hv9 hn9
            generalize hl13 : (rst L k).length = l13 at hap hlt2 hlt3 ⊢
            clear hl13
            go_wp2_with (at_builtin; refine wpList_append_run rfl _ _ 35 rfl rfl rfl hap ?_)
            refine (Held_any H9.out.ca).mono ?_
            rintro e w10 ⟨v10, rfl, h10, hb10⟩
            have HH10 := hid h10
            have H10 := hid (H9.out.below hb10)
            have HQ10 := hid (HQ9.out.keep (Kp.below hb10))
            have HBK10 := hid (HBK9.out.keep (Kp.below hb10))
            clear h10 hb10 H9 HQ9 HBK9
            have HEQ : Hid (nums (ol d (rst L k ++ [(k : Int)])) = (rst L k) ++ [(k : Int)]) := hid (by rw [nums_ol])
            have HLE : Hid (((ol d (rst L k ++ [(k : Int)]))).length = (rst L k).length + 1) := hid (by simp [ol])
            have hh10 := HH10.out
            simp only at hh10
            rw [HEQ.out, HLE.out, ← HN9.out] at hh10
            obtain ⟨a10, c10, e10⟩ := owns_slice hh10
            subst e10
            have HH := hid hh10
            clear hh10 HH10
            have HCE : Hid (∀ j, j < n9 → ∃ g1 g2 o2, a10 = some ⟨g1, 0, none⟩ ∧ a9 = some ⟨g2, o2, none⟩ ∧ w10.cell? ⟨g1, j, none⟩ = some (.int .i64 (((rst L k) ++ [(k : Int)]).getD j 0)) ∧ w10.cell? ⟨g2, o2 + j, none⟩ = some (.int .i64 (((rst L k) ++ [(k : Int)]).getD j 0))) := hid (fun j hj => by
              have hl : ((rst L k) ++ [(k : Int)]).length = n9 := by simp [HN9.out]
              have hh := HH.out
              rw [← hl] at hh
              obtain ⟨g1, c1, e1, hc1, _⟩ := owns_int (j := j) hh (by omega)
              obtain ⟨g2, o2, c2, e2, _, hc2⟩ := HQ10.out.1.open_ (by omega)
              simp only [Value.slice.injEq] at e1 e2
              exact ⟨g1, g2, o2, e1.1, e2.1, hc1, hc2 j (by omega)⟩)
            have hn9i : (n9 : Int) ≤ 1000 := by have := HN9.out; have := HRL.out; omega
            go_wp2_with fail
            obtain ⟨w11, hw11⟩ : ∃ w11, w11 = w10 := ⟨_, rfl⟩
            go_loopw [16] (fun z wr => ∃ j q : Nat, j ≤ n9 ∧ z = .int .i64 j ∧ wr = w10.drewN q) (fun z _ => n9 - (RowKit.intOf z).toNat)
            case atStart => exact ⟨0, 0, Nat.zero_le _, rfl, rfl⟩
            case round =>
              obtain ⟨j, q, hj, rfl, hww⟩ := hrel
              rw [hww]
              by_cases hjn : j < n9
              · have hji : (j : Int) < n9 := by omega
                obtain ⟨g1, g2, o2, q1, q2, hc1, hc2⟩ := HCE.out j hjn
                subst q1 q2
                have hc1' : ∀ t, (w10.drewN t).cell? ⟨g1, j, none⟩ = some (.int .i64 (((rst L k) ++ [(k : Int)]).getD j 0)) := fun t => hc1
                have hc2' : ∀ t, (w10.drewN t).cell? ⟨g2, o2 + j, none⟩ = some (.int .i64 (((rst L k) ++ [(k : Int)]).getD j 0)) := fun t => hc2
                generalize ((rst L k) ++ [(k : Int)]).getD j 0 = x at *
                go_wp2_with fail
                go_quiet (fail)
                go_wp2_with fail
                go_roundw
                case rel => exact ⟨j + 1, _, by omega, by go_num, rfl⟩
                case measure => simp [RowKit.intOf]; omega
              · have hji : ¬ ((j : Int) < n9) := by omega
                have HFIN : Hid (∀ t, Hv w0 (w10.drewN t) p S4 ⟨N, ol d ((rst L k) ++ [(k : Int)])⟩ (i + 1) ∧ Bk w0 (w10.drewN t) S4 w2.heap.size d ∧ Lq w0 (w10.drewN t) S4 (.slice a9 n9 c9) ((rst L k) ++ [(k : Int)]) ∧ Og N ((rst L k) ++ [(k : Int)])) := hid (fun t => by
                  have hbt : Below w10.heap.size w10 (w10.drewN t) := below_drewN (Below.refl _ _) t
                  exact ⟨(H10.out.below hbt).more (by omega), HBK10.out.keep (Kp.below hbt), HQ10.out.keep (Kp.below hbt), HOG.out⟩)
                go_wp2_with fail
                go_roundw
                case rel => exact ⟨i + 1, (rst L k) ++ [(k : Int)], S4, by omega, by omega, by go_num, (HFIN.out _).1, (HFIN.out _).2.1, (HFIN.out _).2.2.1, HNB9.out, HOG.out⟩
                case measure => simp [RowKit.intOf]; omega
      · refine (Get_no HV1.out.ca k ik (by rw [nums_ol]; exact hkL)).mono ?_
        rintro e w4 ⟨rfl, hw4⟩
        have HV4 : Hid (Hv w0 w4 p S1 ⟨N, ol d L⟩ i) := hid (by rw [hw4]; exact HV1.out)
        have HK4 : Hid (Bk w0 w4 S1 w2.heap.size d) := hid (by rw [hw4]; exact HK1.out)
        have HQ4 : Hid (Lq w0 w4 S1 (.slice a8 lL c8) L) := hid (by rw [hw4, HLL.out]; exact HQ1.out)
        rw [← HLL.out] at HNB1
        clear hw4 HV1 HK1 HQ1
        go_wp2_with fail
        go_loopw [13, 14] (fun v z wq => ∃ (j : Nat), j ≤ lL ∧ z = .int .i64 j ∧ Hv w0 wq p S1 ⟨N, ol d L⟩ i ∧ Bk w0 wq S1 w2.heap.size d ∧ Lq w0 wq S1 (.slice a8 lL c8) L ∧ Lq w0 wq S1 v (rst (L.take j) k) ∧ (∀ b, blk v = some b → b ≠ w2.heap.size ∧ blk (.slice a8 lL c8) ≠ some b)) (fun _ z _ => lL - (RowKit.intOf z).toNat)
        case atStart => exact ⟨0, by omega, rfl, HV4.out, HK4.out, HQ4.out, by simpa [rst] using Lq.nil w0 w4 S1, fun b e => by simp [blk] at e⟩
        case round =>
          obtain ⟨j, hj, rfl, hv5, hk5, hq5, hr5, hnb5⟩ := hrel
          obtain ⟨w5, hw5⟩ : ∃ w5, w5 = wr := ⟨_, rfl⟩
          rw [← hw5] at hv5 hk5 hq5 hr5 ⊢
          clear hw5 wr
          have HV5 := hid hv5
          have HK5 := hid hk5
          have HQ5 := hid hq5
          have HR5 := hid hr5
          have HNB5 := hid hnb5
          obtain ⟨a13, c13, e13⟩ := hr5.1.shape
          subst e13
          clear hv5 hk5 hq5 hr5 hnb5 HV4 HK4 HQ4
          have hr13 : (rst (L.take j) k).length ≤ 12 := Nat.le_trans (List.length_filter_le _ _) (by rw [List.length_take]; omega)
          by_cases hjl : j < lL
          · have hji : (j : Int) < lL := by omega
            obtain ⟨b8, o8, cp8, e8, _, hc8⟩ := HQ5.out.1.open_ (by have := HLL.out; omega)
            simp only [Value.slice.injEq] at e8
            obtain ⟨rfl, q1, q2⟩ := e8
            clear q1 q2
            have hcj := hc8 j (by have := HLL.out; omega)
            have HRT := hid (rst_take (l := L) (k := (k : Int)) (j := j) (by have := HLL.out; omega))
            clear hc8
            obtain ⟨a14, n14, c14, w6, hap, hq6, hn6, hm6, hv6⟩ := HR5.out.push HV5.out.ca.lt HV5.out.bel.size (by omega) (L.getD j 0)
            have HV6 := hid (HV5.out.outside hm6 (fun b e => (HR5.out.2 b e).1) (fun b e => (HR5.out.2 b e).2))
            have HK6 := hid (HK5.out.mods hm6 (fun e => (HNB5.out _ e).1 rfl))
            have HQ6 := hid (HQ5.out.mods hm6 (fun b e e2 => (HNB5.out b e2).2 e))
            have HR6 := hid hq6
            have HNB6 : Hid (∀ b, blk (.slice a14 n14 c14) = some b → b ≠ w2.heap.size ∧ blk (.slice (some ⟨b8, o8, none⟩) lL c8) ≠ some b) := hid (fun b e => by
              rcases hv6 b e with e2 | e2
              · exact HNB5.out b e2
              · exact ⟨by have := HK5.out.lt; omega, fun e3 => by have := HQ5.out.1.lt e3; omega⟩)
            clear hq6 hm6 hv6 hn6
            generalize (rst (L.take j) k).length = l13 at *
            generalize L.getD j 0 = xj at *
            by_cases hxk : xj = (k : Int)
            · subst hxk
              have HRT2 := hid (HRT.out.trans (if_pos rfl))
              clear HRT hap
              go_wp2_with fail
              go_roundw
              case rel => exact ⟨j + 1, by omega, by go_num, HV5.out, HK5.out, HQ5.out, by rw [HRT2.out]; exact HR5.out, HNB5.out⟩
              case measure => simp [RowKit.intOf]; omega
            · have hxk2 : (xj != (k : Int)) = true := by rw [bne_iff_ne]; exact hxk
              have HRT2 := hid (HRT.out.trans (if_neg hxk))
              clear HRT
              go_wp2_with (at_builtin; refine wpList_append_run rfl _ _ 35 rfl rfl rfl hap ?_)
              go_roundw
              case rel => exact ⟨j + 1, by omega, by go_num, HV6.out, HK6.out, HQ6.out, by rw [HRT2.out]; exact HR6.out, HNB6.out⟩
              case measure => simp [RowKit.intOf]; omega
          · have hji : ¬ ((j : Int) < lL) := by omega
            have hjL : L.take j = L := List.take_of_length_le (by have := HLL.out; omega)
            rw [hjL] at HR5 hr13 HNB5 ⊢
            clear hjL
            rw [rst_no hkL] at HR5 HNB5 hr13
            rw [rst_no hkL, ← HLL.out]
            rw [← HLL.out] at HR5 HNB5
            have hnl : ¬ ((lL : Int) < lL) := by omega
            by_cases hfull : lL = N
            · obtain rfl : N = lL := hfull.symm
              obtain ⟨b13, o13, e13, q13, hcut, hq13⟩ := HR5.out.tail (by have := HLL.out; omega)
              clear q13
              subst e13
              have hol := ol_fill d HL.out N L L.tail k (by omega) hkL (ol_room d N L HOG1.out.1 (by have := HLL.out; omega) (by have := HLL.out; omega))
              have HF := hid (HV5.out.fill HK5.out k ik (by omega))
              rw [hol.1, hol.2] at HF
              have HQT := hid hq13
              have HNT : Hid (∀ b, blk (behind b13 o13 N c13 1) = some b → b ≠ w2.heap.size) := hid (fun b e => (HNB5.out b (by simpa [behind, blk] using e)).1)
              have HOG : Hid (Og N (L.tail ++ [(k : Int)])) := hid ⟨by
                rw [List.nodup_append]
                exact ⟨nd_tail HOG1.out.1, by simp, fun a ha b hb e => by
                  simp at hb
                  rw [e, hb] at ha
                  exact hkL (List.mem_of_mem_tail ha)⟩, by have := HOG1.out.2; have := HLL.out; simp; omega⟩
              have HRL : Hid (L.tail.length ≤ 12) := hid (by have := HLL.out; simp; omega)
              clear hol hq13
              unfold behind at hcut HQT HNT
              obtain ⟨ob, hob⟩ : ∃ ob, ob = (if c13 = 1 then o13 else o13 + 1) := ⟨_, rfl⟩
              rw [← hob] at hcut HQT HNT
              clear hob
              go_wp2_with (show wpList _ _ _ ({ dst := some 89, op := _, type := _, pos := _, after := _, guard := _ } :: _) _ _; refine wpList_slice_run rfl 35 _ _ Try.underlying35 rfl rfl rfl hcut ?_)
              refine HF.out.mono ?_
              rintro e w6 ⟨rfl, S6, h6, hb6, hk6⟩
              have HV6 := hid h6
              have HBK6 := hid hb6
              have HQR := hid (HQT.out.keep hk6)
              have HNB := HNT
              clear h6 hb6 hk6 HF HV5 HK5 HQ5 HR5
              obtain ⟨a9, n9, c9, w9, hap, hq9, hn9, hm9, hv9⟩ := HQR.out.push HV6.out.ca.lt HV6.out.bel.size (by have := HRL.out; omega) (k : Int)
              have H9 := hid (HV6.out.outside hm9 (fun b e => (HQR.out.2 b e).1) (fun b e => (HQR.out.2 b e).2))
              have HBK9 := hid (HBK6.out.mods hm9 (fun e => HNB.out _ e rfl))
              have HQ9 := hid hq9
              have HNB9 : Hid (∀ b, blk (.slice a9 n9 c9) = some b → b ≠ w2.heap.size) := hid (fun b e => by
                rcases hv9 b e with e2 | e2
                · exact HNB.out b e2
                · have := HBK6.out.lt; omega)
              have HN9 := hid hn9
              clear hq9 hm9 hv9 hn9
              go_wp2_with (at_builtin; refine wpList_append_run rfl _ _ 35 rfl rfl rfl hap ?_)
              refine (Held_any H9.out.ca).mono ?_
              rintro e w10 ⟨v10, rfl, h10, hb10⟩
              have HH10 := hid h10
              have H10 := hid (H9.out.below hb10)
              have HQ10 := hid (HQ9.out.keep (Kp.below hb10))
              have HBK10 := hid (HBK9.out.keep (Kp.below hb10))
              clear h10 hb10 H9 HQ9 HBK9
              have HEQ : Hid (nums (ol d (L.tail ++ [(k : Int)])) = L.tail ++ [(k : Int)]) := hid (by rw [nums_ol])
              have HLE : Hid (((ol d (L.tail ++ [(k : Int)]))).length = L.tail.length + 1) := hid (by simp [ol])
              have hh10 := HH10.out
              simp only at hh10
              rw [HEQ.out, HLE.out, ← HN9.out] at hh10
              obtain ⟨a10, c10, e10⟩ := owns_slice hh10
              subst e10
              have HH := hid hh10
              clear hh10 HH10
              have HCE : Hid (∀ j, j < n9 → ∃ g1 g2 o2, a10 = some ⟨g1, 0, none⟩ ∧ a9 = some ⟨g2, o2, none⟩ ∧ w10.cell? ⟨g1, j, none⟩ = some (.int .i64 ((L.tail ++ [(k : Int)]).getD j 0)) ∧ w10.cell? ⟨g2, o2 + j, none⟩ = some (.int .i64 ((L.tail ++ [(k : Int)]).getD j 0))) := hid (fun j hj => by
                have hl : (L.tail ++ [(k : Int)]).length = n9 := by simp [HN9.out]
                have hh := HH.out
                rw [← hl] at hh
                obtain ⟨g1, c1, e1, hc1, _⟩ := owns_int (j := j) hh (by omega)
                obtain ⟨g2, o2, c2, e2, _, hc2⟩ := HQ10.out.1.open_ (by omega)
                simp only [Value.slice.injEq] at e1 e2
                exact ⟨g1, g2, o2, e1.1, e2.1, hc1, hc2 j (by omega)⟩)
              have hn9i : (n9 : Int) ≤ 1000 := by have := HN9.out; have := HRL.out; omega
              go_wp2_with fail
              obtain ⟨w11, hw11⟩ : ∃ w11, w11 = w10 := ⟨_, rfl⟩
              go_loopw [16] (fun z wr => ∃ j q : Nat, j ≤ n9 ∧ z = .int .i64 j ∧ wr = w10.drewN q) (fun z _ => n9 - (RowKit.intOf z).toNat)
              case atStart => exact ⟨0, 0, Nat.zero_le _, rfl, rfl⟩
              case round =>
                obtain ⟨j, q, hj, rfl, hww⟩ := hrel
                rw [hww]
                by_cases hjn : j < n9
                · have hji : (j : Int) < n9 := by omega
                  obtain ⟨g1, g2, o2, q1, q2, hc1, hc2⟩ := HCE.out j hjn
                  subst q1 q2
                  have hc1' : ∀ t, (w10.drewN t).cell? ⟨g1, j, none⟩ = some (.int .i64 ((L.tail ++ [(k : Int)]).getD j 0)) := fun t => hc1
                  have hc2' : ∀ t, (w10.drewN t).cell? ⟨g2, o2 + j, none⟩ = some (.int .i64 ((L.tail ++ [(k : Int)]).getD j 0)) := fun t => hc2
                  generalize (L.tail ++ [(k : Int)]).getD j 0 = x at *
                  go_wp2_with fail
                  go_quiet (fail)
                  go_wp2_with fail
                  go_roundw
                  case rel => exact ⟨j + 1, _, by omega, by go_num, rfl⟩
                  case measure => simp [RowKit.intOf]; omega
                · have hji : ¬ ((j : Int) < n9) := by omega
                  have HFIN : Hid (∀ t, Hv w0 (w10.drewN t) p S6 ⟨N, ol d (L.tail ++ [(k : Int)])⟩ (i + 1) ∧ Bk w0 (w10.drewN t) S6 w2.heap.size d ∧ Lq w0 (w10.drewN t) S6 (.slice a9 n9 c9) (L.tail ++ [(k : Int)]) ∧ Og N (L.tail ++ [(k : Int)])) := hid (fun t => by
                    have hbt : Below w10.heap.size w10 (w10.drewN t) := below_drewN (Below.refl _ _) t
                    exact ⟨(H10.out.below hbt).more (by omega), HBK10.out.keep (Kp.below hbt), HQ10.out.keep (Kp.below hbt), HOG.out⟩)
                  go_wp2_with fail
                  go_roundw
                  case rel => exact ⟨i + 1, L.tail ++ [(k : Int)], S6, by omega, by omega, by go_num, (HFIN.out _).1, (HFIN.out _).2.1, (HFIN.out _).2.2.1, HNB9.out, HOG.out⟩
                  case measure => simp [RowKit.intOf]; omega
            · have hfi : ¬ ((lL : Int) = (N : Int)) := by omega
              have hfi2 : ((lL : Int) == (N : Int)) = false := by rw [beq_eq_false_iff_ne]; exact hfi
              have hol := ol_fill d HL.out N L L k (by omega) hkL (ol_room' d N L (by have := HLL.out; have := HOG1.out.2; omega))
              have HF := hid (HV5.out.fill HK5.out k ik (by omega))
              rw [hol.1, hol.2] at HF
              have HOG : Hid (Og N (L ++ [(k : Int)])) := hid ⟨by
                rw [List.nodup_append]
                exact ⟨HOG1.out.1, by simp, fun a ha b hb e => by
                  simp at hb
                  rw [e, hb] at ha
                  exact hkL ha⟩, by have := HOG1.out.2; have := HLL.out; simp; omega⟩
              have HRL : Hid (L.length ≤ 12) := hid (by have := HLL.out; omega)
              clear hol
              go_wp2_with fail
              refine HF.out.mono ?_
              rintro e w6 ⟨rfl, S6, h6, hb6, hk6⟩
              have HV6 := hid h6
              have HBK6 := hid hb6
              have HQR := hid (HR5.out.keep hk6)
              have HNB : Hid (∀ b, blk (.slice a13 lL c13) = some b → b ≠ w2.heap.size) := hid (fun b e => (HNB5.out b e).1)
              clear h6 hb6 hk6 HF HV5 HK5 HQ5 HR5
              obtain ⟨a9, n9, c9, w9, hap, hq9, hn9, hm9, hv9⟩ := HQR.out.push HV6.out.ca.lt HV6.out.bel.size (by have := HRL.out; omega) (k : Int)
              have H9 := hid (HV6.out.outside hm9 (fun b e => (HQR.out.2 b e).1) (fun b e => (HQR.out.2 b e).2))
              have HBK9 := hid (HBK6.out.mods hm9 (fun e => HNB.out _ e rfl))
              have HQ9 := hid hq9
              have HNB9 : Hid (∀ b, blk (.slice a9 n9 c9) = some b → b ≠ w2.heap.size) := hid (fun b e => by
                rcases hv9 b e with e2 | e2
                · exact HNB.out b e2
                · have := HBK6.out.lt; omega)
              have HN9 := hid hn9
              clear hq9 hm9 hv9 hn9
              go_wp2_with (at_builtin; refine wpList_append_run rfl _ _ 35 rfl rfl rfl hap ?_)
              refine (Held_any H9.out.ca).mono ?_
              rintro e w10 ⟨v10, rfl, h10, hb10⟩
              have HH10 := hid h10
              have H10 := hid (H9.out.below hb10)
              have HQ10 := hid (HQ9.out.keep (Kp.below hb10))
              have HBK10 := hid (HBK9.out.keep (Kp.below hb10))
              clear h10 hb10 H9 HQ9 HBK9
              have HEQ : Hid (nums (ol d (L ++ [(k : Int)])) = L ++ [(k : Int)]) := hid (by rw [nums_ol])
              have HLE : Hid (((ol d (L ++ [(k : Int)]))).length = L.length + 1) := hid (by simp [ol])
              have hh10 := HH10.out
              simp only at hh10
              rw [HEQ.out, HLE.out, ← HN9.out] at hh10
              obtain ⟨a10, c10, e10⟩ := owns_slice hh10
              subst e10
              have HH := hid hh10
              clear hh10 HH10
              have HCE : Hid (∀ j, j < n9 → ∃ g1 g2 o2, a10 = some ⟨g1, 0, none⟩ ∧ a9 = some ⟨g2, o2, none⟩ ∧ w10.cell? ⟨g1, j, none⟩ = some (.int .i64 ((L ++ [(k : Int)]).getD j 0)) ∧ w10.cell? ⟨g2, o2 + j, none⟩ = some (.int .i64 ((L ++ [(k : Int)]).getD j 0))) := hid (fun j hj => by
                have hl : (L ++ [(k : Int)]).length = n9 := by simp [HN9.out]
                have hh := HH.out
                rw [← hl] at hh
                obtain ⟨g1, c1, e1, hc1, _⟩ := owns_int (j := j) hh (by omega)
                obtain ⟨g2, o2, c2, e2, _, hc2⟩ := HQ10.out.1.open_ (by omega)
                simp only [Value.slice.injEq] at e1 e2
                exact ⟨g1, g2, o2, e1.1, e2.1, hc1, hc2 j (by omega)⟩)
              have hn9i : (n9 : Int) ≤ 1000 := by have := HN9.out; have := HRL.out; omega
              go_wp2_with fail
              obtain ⟨w11, hw11⟩ : ∃ w11, w11 = w10 := ⟨_, rfl⟩
              go_loopw [16] (fun z wr => ∃ j q : Nat, j ≤ n9 ∧ z = .int .i64 j ∧ wr = w10.drewN q) (fun z _ => n9 - (RowKit.intOf z).toNat)
              case atStart => exact ⟨0, 0, Nat.zero_le _, rfl, rfl⟩
              case round =>
                obtain ⟨j, q, hj, rfl, hww⟩ := hrel
                rw [hww]
                by_cases hjn : j < n9
                · have hji : (j : Int) < n9 := by omega
                  obtain ⟨g1, g2, o2, q1, q2, hc1, hc2⟩ := HCE.out j hjn
                  subst q1 q2
                  have hc1' : ∀ t, (w10.drewN t).cell? ⟨g1, j, none⟩ = some (.int .i64 ((L ++ [(k : Int)]).getD j 0)) := fun t => hc1
                  have hc2' : ∀ t, (w10.drewN t).cell? ⟨g2, o2 + j, none⟩ = some (.int .i64 ((L ++ [(k : Int)]).getD j 0)) := fun t => hc2
                  generalize (L ++ [(k : Int)]).getD j 0 = x at *
                  go_wp2_with fail
                  go_quiet (fail)
                  go_wp2_with fail
                  go_roundw
                  case rel => exact ⟨j + 1, _, by omega, by go_num, rfl⟩
                  case measure => simp [RowKit.intOf]; omega
                · have hji : ¬ ((j : Int) < n9) := by omega
                  have HFIN : Hid (∀ t, Hv w0 (w10.drewN t) p S6 ⟨N, ol d (L ++ [(k : Int)])⟩ (i + 1) ∧ Bk w0 (w10.drewN t) S6 w2.heap.size d ∧ Lq w0 (w10.drewN t) S6 (.slice a9 n9 c9) (L ++ [(k : Int)]) ∧ Og N (L ++ [(k : Int)])) := hid (fun t => by
                    have hbt : Below w10.heap.size w10 (w10.drewN t) := below_drewN (Below.refl _ _) t
                    exact ⟨(H10.out.below hbt).more (by omega), HBK10.out.keep (Kp.below hbt), HQ10.out.keep (Kp.below hbt), HOG.out⟩)
                  go_wp2_with fail
                  go_roundw
                  case rel => exact ⟨i + 1, L ++ [(k : Int)], S6, by omega, by omega, by go_num, (HFIN.out _).1, (HFIN.out _).2.1, (HFIN.out _).2.2.1, HNB9.out, HOG.out⟩
                  case measure => simp [RowKit.intOf]; omega
    · have HB := hid HV1.out.bel
      clear HV1 HK1 HQ1
      by_cases h1 : i < ln
      · have hi1 : (i : Int) < ln := by omega
        have hi2 : ¬ ((i : Int) < 100) := by omega
        go_wp2_with fail
        go_ret
        exact ⟨rfl, HB.out⟩
      · have hi1 : ¬ ((i : Int) < ln) := by omega
        have hi3 : decide ((i : Int) < ln) = false := decide_eq_false hi1
        go_wp2_with fail
        go_ret
        exact ⟨rfl, HB.out⟩
end Go.Proofs.Ytdfnfcimajomeaa
