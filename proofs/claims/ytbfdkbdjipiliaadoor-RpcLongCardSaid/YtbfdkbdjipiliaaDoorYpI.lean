/- Mark. -/
import Derived.Test.YtbfdkbdjipiliaaDoorYpH
import Derived.Test.YtbfdkbdjipiliaaDoorYgA
namespace Go.Proofs.YtbfdkbdjipiliaaDoor
open Go.RowKit Go.Maps
set_option linter.unusedVariables false

theorem or31 (n : Nat) (h : n < 2147483648) : bits .or .u32 2147483648 (n : Int) = mkV n true := by
  rw [u32_or 2147483648 (n : Int) (by decide) (by decide) (by omega) (by omega)]
  have e := Nat.two_pow_add_eq_or_of_lt (i := 31) (b := n) (by omega) 1
  have e2 : (2147483648 : Int).toNat ||| (n : Int).toNat = 2147483648 + n := by
    rw [Int.toNat_natCast, show (2147483648 : Int).toNat = 2 ^ 31 * 1 from rfl, ← e]
  rw [e2]
  unfold mkV
  rw [if_pos rfl]
  omega
/-- A record as it is marked, in one piece. -/
def mkL (l : List Int) : List Int := bytesBe 4 (mkV l.length true) ++ l
theorem mkL_len (l : List Int) : (mkL l).length = 4 + l.length := by unfold mkL; rw [List.length_append, len_be]
set_option maxRecDepth 100000 in
set_option maxHeartbeats 4000000 in
theorem Mark_any (w : World) (a : Option Addr) (n c : Nat) (l : List Int) (hn : l.length = n) (hnm : n ≤ 700000) (hb : Bytes w a l) :
    Calls Tryd.prog 10 #[.slice a n c] w fun e w' => ∃ a' c', e = .returned (.slice a' (n + 4) c') ∧ RW w' 5 1 (.slice a' (n + 4) c') (n + 4) (u8s (mkL l)) ∧ (∀ x ∈ mkL l, IsB x) ∧ (∀ b, blkV (.slice a' (n + 4) c') = some b → w.heap.size ≤ b) ∧ Below w.heap.size w w' := by
  have HNW := hid (NewWriter_any w)
  have hw32 : IntKind.u32.wrap (n : Int) = n := IntWalk.u32_in _ (by omega)
  have hor := or31 n (by omega)
  obtain ⟨v, hv⟩ : ∃ v, mkV n true = v := ⟨_, rfl⟩
  rw [hv] at hor
  have hvU : IsU v := by rw [← hv]; unfold mkV IsU; rw [if_pos rfl]; omega
  have HVU := hid hvU
  have HML : Hid (mkL l = bytesBe 4 v ++ l) := hid (by unfold mkL; rw [hn, hv])
  have HB := hid hb
  have HN := hid hn
  clear hb hn hv hvU
  go_enter Tryd.func10, Tryd.ntmps10
  go_wp2_with (first
    | (go_at_call 19
       refine HNW.out.mono ?_
       rintro e w2 ⟨rfl, hx2, hb2⟩
       obtain ⟨p, hp⟩ : ∃ p, w.heap.size = p := ⟨_, rfl⟩
       rw [hp] at hx2 ⊢
       have hK2 : Kp (fun _ => False) w (fun b => b = p) w2 := ⟨fun b hb => .inr (by rw [hb, hp]; exact Nat.le_refl _), Mods.of_below hb2⟩
       have HU1 := hid (WU32_new hx2 [v] (by intro x hx; simp only [List.mem_singleton] at hx; subst hx; exact HVU.out) 1 rfl (by omega) (by simp))
       simp only [List.map_cons, List.map_nil, List.nil_append, nuL_one] at HU1
       have HK2 := hid hK2
       clear hx2 hb2 hK2 hp HNW)
    | (go_at_call 20
       refine HU1.out.mono ?_
       rintro e w3 ⟨rfl, S3, hx3, hk3⟩
       have HD := hid (Done_own hx3 4 (by simp [len_be]) (by omega) (by omega))
       have HK3 := hid (HK2.out.trans hk3)
       clear hx3 hk3 HU1 HK2)
    | (go_at_call 21
       refine HD.out.mono ?_
       rintro e w4 ⟨g, c4, rfl, ho4, hc4, hg4, hg4l, hb4⟩
       have hk3 := HK3.out
       have hB3 : Below w.heap.size w w3 := ⟨hk3.2.os, hk3.2.tape, hk3.2.output, hk3.2.size, fun b hb => hk3.2.block b hb (fun e => e)⟩
       have hB4 := hB3.trans (hb4.mono hk3.2.size)
       have hr4 := RW.of_owns ho4
       have hl4 : (bytesBe 4 v).length = 4 := len_be 4 v
       obtain ⟨a5, c5, w5, hap, hr5, hm5, hbk5⟩ := RB.push w4 (.slice (some ⟨g, 0, none⟩) 4 c4) (bytesBe 4 v) (by rw [hl4]; exact hr4) l a n c HN.out (HB.out.later hB4) (by rw [hl4]; omega) 27
       rw [hl4, Nat.add_comm 4 n] at hap hr5 hbk5
       have hg5 : w.heap.size ≤ g := Nat.le_trans hk3.2.size hg4
       have HR5 := hid hr5
       have HBK : Hid (∀ b, blkV (.slice a5 (n + 4) c5) = some b → w.heap.size ≤ b) := hid (fun b hb => by
         rcases hbk5 with e | ⟨y, hy, e⟩
         · rw [e] at hb; simp only [blkV, Option.some.injEq] at hb; omega
         · rw [e] at hb; simp only [Option.some.injEq] at hb; have := hB4.size; omega)
       have HB5 := hid (hm5.to_below hB4 hB4.size (fun b hb => by simp only [blkV, Option.some.injEq] at hb; omega))
       clear ho4 hc4 hg4 hg4l hb4 hk3 hB3 hB4 hr4 hl4 hr5 hm5 hbk5 hg5 HD HK3)
    | (at_builtin; refine wpList_append_run rfl _ _ 27 rfl rfl rfl hap ?_; clear hap))
  go_ret
  have hib : ∀ x ∈ mkL l, IsB x := by
    rw [HML.out]
    intro x hx
    rcases List.mem_append.1 hx with h1 | h1
    · exact be_isB _ _ _ h1
    · exact HB.out.isB x h1
  refine ⟨a5, c5, rfl, ?_, hib, HBK.out, HB5.out⟩
  rw [HML.out]
  have e : (bytesBe 4 v ++ l).length = n + 4 := by rw [List.length_append, len_be, HN.out]; omega
  have := HR5.out
  first | exact this | (rw [e] at this; exact this)
end Go.Proofs.YtbfdkbdjipiliaaDoor
