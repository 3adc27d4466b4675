/- Records: readMark. -/
import Derived.Test.YtbfdkbdjipiliaaDoorYpB
namespace Go.Proofs.YtbfdkbdjipiliaaDoor
open Go.RowKit Go.Maps
set_option linter.unusedVariables false

/-- What readMark and take give and leave. -/
def RestPost (w : World) (p : Nat) (S : Nat → Prop) (s' : Pc) (b off n c k : Nat) (e : Ending) (w' : World) : Prop :=
  e = .returned (.slice (some ⟨b, cutO off c k, none⟩) (n - k) (c - k)) ∧ ∃ S', RcAt w' p S' s' ∧ Kp S w S' w'
theorem mark_val (l : List Int) (h4 : l.length = 4) (hB : ∀ x ∈ l, IsB x) : ansV ⟨l, 0, 0⟩ 0 (u32P l 0) = beOf l := by
  unfold ansV u32P numQ
  simp [h4]
  rw [List.take_of_length_le (by omega)]
set_option maxRecDepth 100000 in
set_option maxHeartbeats 4000000 in
theorem readMark_any (w : World) (p : Nat) (S : Nat → Prop) (s : Pc) (vm vr : Value) (h : RcX w p S s vm vr) (h4 : s.mr.length < 4) (b off n c : Nat) (l : List Int) (hn : l.length = n) (hn0 : 0 < n) (hnm : n ≤ 900000) (hc : n ≤ c) (hcm : c ≤ maxLen) (hb : Bytes w (some ⟨b, off, none⟩) l) :
    Calls Tryd.prog 33 #[.pointer (some ⟨p, 0, none⟩), .slice (some ⟨b, off, none⟩) n c] w (RestPost w p S (rmS s (rmK s l) l) b off n c (rmK s l)) := by
  obtain ⟨m, hm⟩ : ∃ m, s.mr.length = m := ⟨_, rfl⟩
  obtain ⟨k, hk⟩ : ∃ k, rmK s l = k := ⟨_, rfl⟩
  have hkv : k = min (4 - m) n := by rw [← hk]; unfold rmK; rw [if_neg (by omega), hm, hn]
  rw [hk]
  have hr := h.rm
  rw [hm] at hr h4
  obtain ⟨am, cm, rfl⟩ := hr.shape
  have hkn : k ≤ n := by omega
  have hk4 : k + m ≤ 4 := by omega
  have hk0 : 0 < k := by omega
  have hmin : min (4 - (m : Int)) (n : Int) = (k : Int) := by omega
  have c0 : w.cell? ⟨p, 0, none⟩ = some (.slice am m cm) := cell_of h.box rfl
  have hd := h.later (Below.drew (Below.refl w.heap.size w))
  obtain ⟨a2, c2, w2, hap, hp2, S2, hR2, hK2⟩ := hd.mark (l.take k) (some ⟨b, off, none⟩) k c (by rw [List.length_take]; omega) ((hb.later ((Below.refl _ _).drew)).take k) (by rw [hm]; omega)
  rw [hm] at hap hR2 hK2
  obtain ⟨mk, hmk⟩ : ∃ r, m + k = r := ⟨_, rfl⟩
  rw [hmk] at hap hR2 hK2
  obtain ⟨W3, hW3⟩ : ∃ W, W = w2.setCell ⟨p, 0, none⟩ (.slice a2 mk c2) := ⟨_, rfl⟩
  rw [← hW3] at hR2 hK2
  have d2 := froz_of hp2 0
  have e2 := cell_of hp2 (i := 0) (v := .slice am m cm) rfl
  have HR2 := hid hR2
  have HK2 := hid ((Kp.below (S := S) ((Below.refl w.heap.size w).drew)).trans hK2)
  have HMK := hid (marked_any hR2)
  have hml : (s.mr ++ l.take k).length = mk := by rw [List.length_append, List.length_take, hm]; omega
  have hcc := cutO_is b off c k
  have hkc : k ≤ c := by omega
  have HHM := hid hm
  have HML := hid hml
  have hml2 : m ≤ 4 := by omega
  by_cases hfull : mk = 4
  · have hdec : decide ((s.mr ++ l.take k).length = 4) = true := by rw [hml]; simpa using hfull
    rw [hdec] at HMK
    have HNR := hid (NewReader_any W3 a2 mk c2 (s.mr ++ l.take k) hml (by omega) (RW.bytes (by have := hR2.rm; rw [hml] at this; exact this) hR2.im))
    obtain ⟨v, hv⟩ : ∃ v, beOf (s.mr ++ l.take k) = v := ⟨_, rfl⟩
    have hvb : 0 ≤ v ∧ v < 4294967296 := by
      have := beOf_bd (s.mr ++ l.take k) hR2.im
      rw [hml, hfull, hv] at this
      exact ⟨this.1, by have := this.2; simpa using this⟩
    have ban := andNot31 v hvb.1 hvb.2
    have ba := and31 v hvb.1 hvb.2
    have HMV := hid (mark_val (s.mr ++ l.take k) (by rw [hml]; exact hfull) hR2.im)
    have HV := hid hv
    obtain ⟨lf, hlf⟩ : ∃ x : Nat, v % 2147483648 = x := ⟨(v % 2147483648).toNat, by omega⟩
    obtain ⟨la, hla⟩ : ∃ x, decide (2147483648 ≤ v) = x := ⟨_, rfl⟩
    rw [hlf] at ban
    rw [hla] at ba
    have ba' : (bits .and .u32 v 2147483648 != 0) = la := by unfold bne; rw [ba]; simp
    have hlf2 : lf < 2147483648 := by omega
    have HLF := hid hlf
    have HLA := hid hla
    have HRS : Hid (rmS s k l = { s with mr := s.mr ++ l.take k, lf := lf, la := la }) := hid (by
      unfold rmS
      rw [if_pos (by rw [hm, hmk]; exact hfull), hv, hlf, hla]
      simp)
    have HFU := hid hfull
    subst hfull
    clear h hr hb hp2 hR2 hK2 hd hdec hml hm hn hk hkv hvb hv hmk hlf hla
    go_enter Tryd.func33, Tryd.ntmps33
    go_wp2_with fail
    go_region_law (refine step_append_runY rfl _ _ 27 rfl rfl rfl hap ?_)
    all_goals
      rw [← hW3]
      clear hW3 hap c0 d2 e2
      have c30 : W3.cell? ⟨p, 0, none⟩ = some (.slice a2 4 c2) := cell_of HR2.out.box rfl
      go_upto_region 5 with (first
        | (go_at_call 16; refine HMK.out.mono ?_; rintro e w4 ⟨rfl, rfl⟩)
        | (go_at_call 22; refine HNR.out.mono ?_; rintro e w5 ⟨q, rfl, hq1, hRX, hq2, hB5, hq3⟩; have HU := hid (RU32_any (hRX (fun b => b = q) rfl (fun b h1 h2 e => by omega))); rw [HMV.out, HV.out] at HU; have HQ1 := hid hq1; have HB5 := hid hB5; clear hq1 hRX hq2 hB5 hq3)
        | (go_at_call 37; refine HU.out.mono ?_; rintro e w6 ⟨rfl, _, hm6⟩; have HM6 := hid hm6; clear hm6 HU))
      have hk6 : ∀ x, S2 x → w6.heap[x]? = w4.heap[x]? := fun x hx => (HM6.out.block x (Nat.lt_of_lt_of_le (HR2.out.slt x hx) HB5.out.size) (fun e => by have e1 := HR2.out.slt x hx; have e2 := HQ1.out; omega)).trans (HB5.out.block x (HR2.out.slt x hx))
      have hR6 := HR2.out.keep hk6 (Nat.le_trans HB5.out.size HM6.out.size)
      have hK6 : Kp S2 w4 S2 w6 := ⟨fun _ h => .inl h, (Mods.of_below HB5.out).trans HM6.out (fun x hx => .inr (by rw [hx]; exact HQ1.out))⟩
      have g1 : w6.cell? ⟨p, 1, none⟩ = some (.int .i64 s.lf) := cell_of hR6.box rfl
      have g2 : w6.cell? ⟨p, 2, none⟩ = some (.bool s.la) := cell_of hR6.box rfl
      have z1 := froz_of hR6.box 1
      have z2 := froz_of hR6.box 2
      obtain ⟨W7, hW7⟩ : ∃ W, W = w6.setCell ⟨p, 1, none⟩ (.int .i64 lf) := ⟨_, rfl⟩
      have h7 := setc hR6.box 1 (.int .i64 lf)
      rw [← hW7] at h7
      obtain ⟨W8, hW8⟩ : ∃ W, W = W7.setCell ⟨p, 2, none⟩ (.bool la) := ⟨_, rfl⟩
      have h8 := setc h7 2 (.bool la)
      rw [← hW8] at h8
      have m8 : Mods (fun x => x = p) w6 W8 := by rw [hW8, hW7]; exact ((Mods.refl (fun x => x = p) w6).setCell p 1 _ rfl).setCell p 2 _ rfl
      have y2 : W7.cell? ⟨p, 2, none⟩ = some (.bool s.la) := cell_of h7 rfl
      have yz2 := froz_of h7 2
      have HT8 := hid (hR6.turn (s' := { s with mr := s.mr ++ l.take k, lf := lf, la := la }) m8 h8 rfl rfl)
      have HK8 := hid ((HK2.out.trans hK6).trans (⟨fun _ h => .inl h, m8.weak (fun x hx => .inl (by rw [hx]; exact hR6.sp))⟩ : Kp S2 w6 S2 W8))
      have HW7 := hW7.symm
      have HW8 := hW8.symm
      clear hk6 hR6 hK6 h7 h8 m8 hW7 hW8 HR2 HK2 HM6 HB5 c30
      go_wp2
      go_ret
      refine ⟨rfl, S2, ?_, HK8.out⟩
      rw [HRS.out]
      exact ⟨_, _, HT8.out⟩
  · have hdec : decide ((s.mr ++ l.take k).length = 4) = false := by rw [hml]; simpa using hfull
    rw [hdec] at HMK
    have HRS : Hid (rmS s k l = { s with mr := s.mr ++ l.take k }) := hid (by
      unfold rmS
      rw [if_neg (by rw [hm, hmk]; exact hfull)])
    clear h hr hb hp2 hR2 hK2 hd hdec hml hm hn hk hkv hmk hfull
    go_enter Tryd.func33, Tryd.ntmps33
    go_wp2_with fail
    go_region_law (refine step_append_runY rfl _ _ 27 rfl rfl rfl hap ?_)
    all_goals
      rw [← hW3]
      clear hW3 hap c0 d2 e2
      go_wp2_with (go_at_call 16; refine HMK.out.mono ?_; rintro e w4 ⟨rfl, rfl⟩)
      go_ret
      refine ⟨rfl, S2, ?_, HK2.out⟩
      rw [HRS.out]
      exact ⟨_, _, HR2.out⟩
end Go.Proofs.YtbfdkbdjipiliaaDoor
