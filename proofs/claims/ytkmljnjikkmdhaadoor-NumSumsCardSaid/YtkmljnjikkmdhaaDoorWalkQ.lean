import Derived.Test.YtkmljnjikkmdhaaDoorRows
import Derived.Test.YtkmljnjikkmdhaaDoorWalkN
import Derived.WalkKit
import Derived.WalkSpells
import Derived.WalkLawsBesides
import Derived.Deep.QuietTactic
import Derived.BigQuiet
namespace Go.Proofs.YtkmljnjikkmdhaaDoor
open Go.RowKit
set_option linter.unusedVariables false

theorem and1 (a : Int) (ha : IsU a) : bits .and .u32 a 1 = a % 2 := by
  unfold IsU at *
  rw [u32_and a 1 ha.1 ha.2 (by decide) (by decide)]
  have : a.toNat &&& (1 : Int).toNat = a.toNat % 2 := nat_mask1 a.toNat
  rw [this]; omega

set_option maxHeartbeats 400000 in
theorem refCrc_any (a : Option Addr) (cap : Nat) (l : List Int) (w : World) (hl : l.length ≤ 140737488355328) (h : Bytes w a l) :
    Calls Tryd.prog 22 #[.slice a l.length cap] w fun e w' => e = .returned (.int .u32 (4294967295 - crcOn 4294967295 l)) ∧ w' = w := by
  have HB := hid h
  clear h
  obtain ⟨n, hn⟩ : ∃ n, l.length = n := ⟨_, rfl⟩
  have HN := hid hn
  rw [hn] at hl ⊢
  clear hn
  go_enter Tryd.func22, Tryd.ntmps22
  go_wp2
  go_loop [3, 4] (fun s i => ∃ k : Nat, k ≤ n ∧ i = .int .i64 k ∧ s = .int .u32 (crcOn 4294967295 (l.take k))) (fun _ i => n - (intOf i).toNat)
  case atStart => exact ⟨0, Nat.zero_le _, rfl, rfl⟩
  case round =>
    obtain ⟨k, hk, rfl, rfl⟩ := hrel
    have hbd := crcOn_bd 4294967295 (l.take k) (by unfold IsU; decide) (fun x hx => HB.out.isB x (List.mem_of_mem_take hx))
    by_cases hlt : k < n
    · have hkl : k < l.length := by rw [HN.out]; exact hlt
      obtain ⟨b, off, rfl, hcs⟩ := HB.out.open_ (by omega)
      have hc := hcs k hkl
      have hx := mem_getD l IsB HB.out.isB k hkl
      have hsn : crcOn 4294967295 (l.take (k + 1)) = crcStep (crcOn 4294967295 (l.take k)) (l.getD k 0) := by rw [take_snoc l k hkl, crcOn_snoc]
      generalize l.getD k 0 = c at *
      generalize crcOn 4294967295 (l.take k) = s at *
      have h1 := xor_bd s c hbd (byteU c hx)
      rw [← bits_eight s c hbd hx] at hsn
      have HS := hid hsn
      unfold IsB at hx
      clear hsn hcs hbd
      obtain ⟨s1, hs1⟩ : ∃ s1, bits .xor .u32 s c = s1 := ⟨_, rfl⟩
      rw [hs1] at h1 HS
      have H1 := hid h1
      clear h1
      go_wp2
      go_loop [3, 5, 6] (fun t j _ => ∃ q : Nat, q ≤ 8 ∧ j = .int .i64 q ∧ t = .int .u32 (bitsOn s1 q)) (fun _ j _ => 8 - (intOf j).toNat)
      case atStart => exact ⟨0, Nat.zero_le _, rfl, rfl⟩
      case round =>
        obtain ⟨q, hq, rfl, rfl⟩ := hrel
        have hbq := bitsOn_bd s1 H1.out q
        by_cases hq8 : q < 8
        · have hst : bitsOn s1 (q + 1) = bitInt (bitsOn s1 q) := rfl
          generalize bitsOn s1 q = t at *
          have ha := and1 t hbq
          have hq8i : (q : Int) < 8 := by omega
          unfold IsU at hbq
          have p0 := hbq.1
          by_cases hodd : t % 2 = 1
          · have he : (t % 2 == 1) = true := by simp [hodd]
            have HT := hid (show bitsOn s1 (q + 1) = bits .xor .u32 (t / 2) 2197175160 by rw [hst]; unfold bitInt; rw [if_pos hodd])
            clear hst hodd
            go_wp2
            go_round
            case rel => exact ⟨q + 1, by omega, by go_num, by rw [HT.out]⟩
            case measure => simp [intOf]; omega
          · have he : (t % 2 == 1) = false := by simp [hodd]
            have HT := hid (show bitsOn s1 (q + 1) = t / 2 by rw [hst]; unfold bitInt; rw [if_neg hodd])
            clear hst hodd
            go_wp2
            go_round
            case rel => exact ⟨q + 1, by omega, by go_num, by rw [HT.out]⟩
            case measure => simp [intOf]; omega
        · have : q = 8 := by omega
          subst this
          go_wp2
          go_round
          case rel => exact ⟨k + 1, by omega, by go_num, by rw [HS.out]⟩
          case measure => simp [intOf]; omega
    · go_wp2
      go_ret
      refine ⟨ret_int ?_, rfl⟩
      rw [not_u32 _ hbd, List.take_of_length_le (by rw [HN.out]; omega)]

set_option maxHeartbeats 400000 in
theorem refInet_any (a : Option Addr) (cap : Nat) (l : List Int) (w : World) (hl : l.length ≤ 1099511627776) (h : Bytes w a l) :
    Calls Tryd.prog 23 #[.slice a l.length cap] w fun e w' => e = .returned (.int .u16 (65535 - inetFold (wsum 0 l))) ∧ w' = w := by
  have HB := hid h
  clear h
  have hfin := wsum_bd 0 l HB.out.isB
  obtain ⟨n, hn⟩ : ∃ n, l.length = n := ⟨_, rfl⟩
  have HN := hid hn
  rw [hn] at hl hfin ⊢
  clear hn
  go_enter Tryd.func23, Tryd.ntmps23
  go_wp2
  go_loop [3, 4] (fun s i => ∃ k : Nat, k ≤ n ∧ i = .int .i64 k ∧ s = .int .u64 (wsum 0 (l.take k))) (fun _ i => n - (intOf i).toNat)
  case atStart => exact ⟨0, Nat.zero_le _, rfl, rfl⟩
  case round =>
    obtain ⟨k, hk, rfl, rfl⟩ := hrel
    by_cases hlt : k < n
    · have hkl : k < l.length := by rw [HN.out]; exact hlt
      have hs := wsum_bd 0 (l.take k) (fun x hx => HB.out.isB x (List.mem_of_mem_take hx))
      have hlk : (l.take k).length = k := by rw [List.length_take]; omega
      rw [hlk] at hs
      obtain ⟨b, off, rfl, hcs⟩ := HB.out.open_ (by omega)
      have hc := hcs k hkl
      have hx := mem_getD l IsB HB.out.isB k hkl
      have hu := take_snoc l k hkl
      generalize l.getD k 0 = c at *
      unfold IsB at hx
      have hs0 := hs.1
      have hs1 : wsum 0 (l.take k) ≤ 71776119061217280 := by omega
      by_cases hpar : k % 2 = 0
      · have e1 := wsum_even (l.take k) c (by rw [hlk]; exact hpar)
        rw [← hu] at e1
        generalize wsum 0 (l.take k) = s at *
        have H1 := hid e1
        have hd : ((k : Int) % 2 == 0) = true := by simp; omega
        clear e1 hu hs hlk hcs hpar hfin
        go_wp2
        go_round
        case rel => exact ⟨k + 1, by omega, by go_num, by rw [H1.out]⟩
        case measure => simp [intOf]; omega
      · have e1 := wsum_odd (l.take k) c (by rw [hlk]; omega)
        rw [← hu] at e1
        generalize wsum 0 (l.take k) = s at *
        have H1 := hid e1
        have hd : ((k : Int) % 2 == 0) = false := by simp; omega
        clear e1 hu hs hlk hcs hpar hfin
        go_wp2
        go_round
        case rel => exact ⟨k + 1, by omega, by go_num, by rw [H1.out]⟩
        case measure => simp [intOf]; omega
    · have e : l.take k = l := List.take_of_length_le (by rw [HN.out]; omega)
      rw [e]
      have hS0 := hfin.1
      have hS1 : wsum 0 l < 18446744073709551616 := by omega
      obtain ⟨S, hSe⟩ : ∃ S, wsum 0 l = S := ⟨_, rfl⟩
      rw [hSe] at hS0 hS1 ⊢
      have HSe := hid hSe
      clear e hfin hSe
      go_wp2
      go_loop [3] (fun s => ∃ x : Int, 0 ≤ x ∧ x < 18446744073709551616 ∧ s = .int .u64 x ∧ Hid (inetFold x = inetFold S)) (fun s => (intOf s).toNat)
      case atStart => exact ⟨S, hS0, hS1, rfl, hid rfl⟩
      case round =>
        obtain ⟨x, hx0, hx1, rfl, hf⟩ := hrel
        by_cases hbig : x / 65536 = 0
        · have ht : (x / 65536 != 0) = false := by simp [hbig]
          have hx2 : x < 65536 := by omega
          clear hbig
          go_wp2
          go_ret
          refine ⟨ret_int ?_, rfl⟩
          rw [not_u16 x hx0 hx2, HSe.out, ← hf.out, inetFold_small x hx0 hx2]
        · have ht : (x / 65536 != 0) = true := by simp [hbig]
          have ea := and65535 x hx0 hx1
          have HF := hid ((inetFold_step x hx0).trans hf.out)
          clear hf
          go_wp2
          go_round
          case rel => exact ⟨_, by omega, by omega, rfl, HF⟩
          case measure => simp [intOf]; omega
end Go.Proofs.YtkmljnjikkmdhaaDoor
