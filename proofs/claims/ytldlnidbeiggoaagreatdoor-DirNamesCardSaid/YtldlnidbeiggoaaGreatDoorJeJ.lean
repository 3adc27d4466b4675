/- JeI, JeJ in one text. -/
import Derived.Test.YtldlnidbeiggoaaGreatDoorJeC
import Derived.Test.YtldlnidbeiggoaaGreatDoorJeH
/- The document's Name; DirNames. -/
namespace Go.Proofs.YtldlnidbeiggoaaGreatDoor
open Go.RowKit Go.Maps
set_option linter.unusedVariables false
theorem firstIdx_nn {s : ByteArray} {c : UInt8} {j : Nat} (hj : j < s.size) (h : s[j]! = c) : 0 ≤ firstIdx s c := by
  unfold firstIdx
  cases hf : (List.range s.size).find? (fun i => s[i]! == c) with
  | none =>
    rw [List.find?_eq_none] at hf
    exact absurd (by simpa using h) (hf j (List.mem_range.2 hj))
  | some i => simp
set_option maxRecDepth 100000 in
set_option maxHeartbeats 1000000 in
theorem rName_any (s : ByteArray) (hs : s.size ≤ 9223372036854775807) (w : World) : Calls Tryz.prog 33 #[.string s] w fun e w' => e = .returned (.int .i64 (nameS s)) ∧ w' = w := by
  by_cases h0 : s.size = 0
  · have hn : nameS s = 22 := by unfold nameS; rw [if_pos (.inl h0)]
    rw [hn]
    have hs : s.toList = [] := (toList_nil s).2 h0
    clear h0 hn
    go_enter Tryz.func33, Tryz.ntmps33
    go_wp2
    go_ret
    exact ⟨rfl, rfl⟩
  · have hs1 : ¬ s.toList = [] := fun e => h0 ((toList_nil s).1 e)
    have hs' : s.toList.isEmpty = false := by rw [List.isEmpty_eq_false_iff]; exact hs1
    obtain ⟨z, hz⟩ : ∃ z : Nat, s.size = z := ⟨_, rfl⟩
    go_enter Tryz.func33, Tryz.ntmps33
    go_wp2_with fail
    go_loopw [3] (fun v wr => ∃ j : Nat, j ≤ z ∧ v = n64 j ∧ wr = w ∧ ∀ i, i < j → s[i]! ≠ 47 ∧ s[i]! ≠ 0) (fun v _ => z - (RowKit.intOf v).toNat)
    case atStart => exact ⟨0, Nat.zero_le _, rfl, rfl, fun i hi => by omega⟩
    case round =>
      obtain ⟨j, hj, rfl, rfl, hall⟩ := hrel
      by_cases hlt : j < z
      · have hlt' : (j : Int) < z := by omega
        have hlt2 : j < s.size := by omega
        have hbang : s[j]! = s[j] := getElem!_pos s j hlt2
        by_cases hb : s[j] = 47
        · have hn : nameS s = 22 := by unfold nameS; rw [if_pos (.inr (.inl (firstIdx_nn hlt2 (hbang.trans hb))))]
          replace hn := hid hn
          clear hbang
          go_wp2
          go_ret
          exact ⟨by rw [hn.out]; rfl, rfl⟩
        · by_cases hb2 : s[j] = 0
          · have hn : nameS s = 22 := by unfold nameS; rw [if_pos (.inr (.inr (firstIdx_nn hlt2 (hbang.trans hb2))))]
            replace hn := hid hn
            clear hbang
            go_wp2
            go_ret
            exact ⟨by rw [hn.out]; rfl, rfl⟩
          · have hn1 : ¬ ((s[j].toNat : Int) = 47) := fun e => hb (UInt8.toNat_inj.1 (by simpa using (by omega : s[j].toNat = 47)))
            have hn2 : ¬ ((s[j].toNat : Int) = 0) := fun e => hb2 (UInt8.toNat_inj.1 (by simpa using (by omega : s[j].toNat = 0)))
            have hwj : wrap64 ((j : Int) + 1) = (j : Int) + 1 := by unfold wrap64; omega
            have b1 : ((s[j].toNat : Int) == 47) = false := beq_false_of_ne hn1
            have b2 : ((s[j].toNat : Int) == 0) = false := beq_false_of_ne hn2
            replace hbang := hid hbang
            replace hb := hid hb
            replace hb2 := hid hb2
            go_wp2
            refine ⟨⟨j + 1, hlt, by show Value.int .i64 ((j : Int) + 1) = Value.int .i64 ((j + 1 : Nat) : Int); congr 1, trivial, fun i hi => ?_⟩, ?_⟩
            · rcases Nat.lt_succ_iff_lt_or_eq.1 hi with h | rfl
              · exact hall i h
              · rw [hbang.out]
                exact ⟨hb.out, hb2.out⟩
            · show z - ((j : Int) + 1).toNat < z - (j : Int).toNat
              omega
      · have hjz : j = z := by omega
        subst hjz
        have e1 : firstIdx s 47 = -1 := firstIdx_none (fun i hi => (hall i (by omega)).1)
        have e2 : firstIdx s 0 = -1 := firstIdx_none (fun i hi => (hall i (by omega)).2)
        have hn : nameS s = if 27 < j then 63 else 0 := by unfold nameS; rw [e1, e2, if_neg (by omega), hz]
        clear e1 e2 hall
        by_cases h3 : 27 < j
        · rw [if_pos h3] at hn
          replace hn := hid hn
          have h3' : (27 : Int) < j := by omega
          go_wp2
          go_ret
          exact ⟨by rw [hn.out]; rfl, rfl⟩
        · rw [if_neg h3] at hn
          replace hn := hid hn
          have h3' : ¬ (27 : Int) < j := by omega
          go_wp2
          go_ret
          exact ⟨by rw [hn.out]; rfl, rfl⟩
end Go.Proofs.YtldlnidbeiggoaaGreatDoor

/- DirNames: the law's walk. -/
namespace Go.Proofs.YtldlnidbeiggoaaGreatDoor
open Go.RowKit Go.Maps
set_option linter.unusedVariables false
set_option maxRecDepth 100000 in
set_option maxHeartbeats 1000000 in
theorem DirNames_walk (s : ByteArray) (hs : s.size ≤ 9223372036854775807) (w : World) {pe : Addr} (hG : Gl w) (hE : En0 w pe) : Calls Tryz.prog 5 #[.string s] w fun e w' => e = .returned (.bool true) ∧ Below w.heap.size w w' := by
  have HK := hid (known11 w hG hE)
  have HS := hid hs
  clear hG hE hs
  go_enter Tryz.func5, Tryz.ntmps5
  go_wp2_with (first
    | (go_at_call 23; refine HK.out.mono ?_; rintro e w1 ⟨rfl, hb⟩; clear HK; replace hb := hid hb)
    | (go_at_call 32; refine (Name_any s w1).mono ?_; rintro e w2 ⟨rfl, rfl⟩)
    | (go_at_call 33; refine (rName_any s HS.out w2).mono ?_; rintro e w3 ⟨rfl, rfl⟩))
  go_ret
  exact ⟨by simp, hb.out⟩
end Go.Proofs.YtldlnidbeiggoaaGreatDoor
