/- The document's driver: Add, what is refused. -/
import Derived.Test.YtjnhcbompgmknaaRefI
import Derived.Test.YtjnhcbompgmknaaPureD
namespace Go.Proofs.Ytjnhcbompgmknaa
open Go.RowKit

/-- The free ones below i, rising. -/
def fr (t : Nat → Bool) (i : Nat) : List Nat := (List.range i).filter (fun j => !t j)
theorem fr_succ (t : Nat → Bool) (i : Nat) : fr t (i + 1) = fr t i ++ (if t i then [] else [i]) := by
  unfold fr
  rw [List.range_succ, List.filter_append]
  cases h : t i <;> simp [h]
theorem fr_pre (t : Nat → Bool) (i n : Nat) (h : i ≤ n) : ∃ r, fr t n = fr t i ++ r := by
  obtain ⟨d, rfl⟩ : ∃ d, n = i + d := ⟨n - i, by omega⟩
  induction d with
  | zero => exact ⟨[], by simp⟩
  | succ d ih =>
    obtain ⟨r, hr⟩ := ih (by omega)
    exact ⟨r ++ (if t (i + d) then [] else [i + d]), by rw [← Nat.add_assoc, fr_succ, hr, List.append_assoc]⟩
theorem fr_len (t : Nat → Bool) (i : Nat) : (fr t i).length ≤ i := by
  unfold fr
  exact Nat.le_trans (List.length_filter_le _ _) (by simp)
theorem fr_lt {t : Nat → Bool} {i x : Nat} (h : x ∈ fr t i) : x < i ∧ t x = false := by
  unfold fr at h
  rw [List.mem_filter, List.mem_range] at h
  exact ⟨h.1, by simpa using h.2⟩
theorem fr_cnt (t : Nat → Bool) (n : Nat) : (fr t n).length = cnt t n := (cnt_free t n).symm
theorem fr_take {t : Nat → Bool} {i n m : Nat} (h : i ≤ n) (hm : (fr t i).length = m) : (fr t n).take m = fr t i := by
  obtain ⟨r, hr⟩ := fr_pre t i n h
  rw [hr, ← hm, List.take_left]

theorem okB_get {bufs : List Bf} {m i : Nat} (h : ∀ b ∈ bufs, okB b) (hb : bufs.length = m) (hi : i < m) : okB (bufs.getD i default) := h _ (getD_mem bufs default i (by omega))

set_option maxRecDepth 100000 in
set_option maxHeartbeats 1000000 in
theorem refAdd_none (w : World) (p : Nat) (a : Option Addr) (cap : Nat) :
    Calls Try.prog 27 #[.pointer (some ⟨p, 0, none⟩), .slice a 0 cap] w fun e w' => e = .returned (.tuple #[.int .i64 0, .int .i64 1]) ∧ w' = w := by
  go_enter Try.func27, Try.ntmps27
  go_wp2
  go_ret2
  exact ⟨rfl, rfl⟩

set_option maxRecDepth 100000 in
set_option maxHeartbeats 2000000 in
theorem refAdd_arg (w : World) (p g : Nat) (ab : Option Addr) (m cap : Nat) (bufs : List Bf) (hb : bufs.length = m) (hB : Bufs w ab bufs g) (hm : m ≤ 65536) (h0 : 0 < m) (hbad : anyB bufs = true) :
    Calls Try.prog 27 #[.pointer (some ⟨p, 0, none⟩), .slice ab m cap] w fun e w' => e = .returned (.tuple #[.int .i64 0, .int .i64 1]) ∧ w' = w := by
  have HB := hid hB
  have Hb := hid hb
  have HBD := hid hbad
  have g0 : ((m : Int) == 0) = false := by rw [beq_eq_false_iff_ne]; omega
  clear hb hB hbad
  go_enter Try.func27, Try.ntmps27
  go_wp2
  go_loopw [6] (fun x wx => ∃ i : Nat, i ≤ m ∧ x = .int .i64 i ∧ wx = w ∧ anyB (bufs.take i) = false) (fun x _ => m - (RowKit.intOf x).toNat)
  case atStart => exact ⟨0, Nat.zero_le _, rfl, rfl, by simp [anyB]⟩
  case round =>
    obtain ⟨i, hi, rfl, hww, hany⟩ := hrel
    rw [hww]
    clear hww
    have HAN := hid hany
    clear hany
    by_cases hil : i < m
    · have hii : (i : Int) < m := by omega
      have hi0 : (0 : Int) ≤ (i : Int) := by omega
      have ei : IntKind.i64.wrap ((i : Int) + 1) = (i : Int) + 1 := IntWalk.i64_in _ (by omega)
      obtain ⟨bb, ob, hab, hbg, c0, c1, c2⟩ := HB.out i (by rw [Hb.out]; exact hil)
      have HSN := hid (anyB_snoc bufs i (by rw [Hb.out]; exact hil))
      subst hab
      generalize bufs.getD i default = bf at *
      obtain ⟨baddr, blen, bwt⟩ := bf
      simp only at c0 c1 c2
      by_cases k1 : baddr < 0
      · go_wp2
        go_ret2
        exact ⟨rfl, rfl⟩
      · by_cases k2 : blen < 0
        · go_wp2
          go_ret2
          exact ⟨rfl, rfl⟩
        · by_cases k3 : (4294967296 : Int) ≤ blen
          · go_wp2
            go_ret2
            exact ⟨rfl, rfl⟩
          · go_wp2
            go_roundw
            case rel =>
              refine ⟨i + 1, by omega, by go_num, trivial, ?_⟩
              rw [HSN.out, HAN.out]
              simp [badB, lenB]
              omega
            case measure => simp only [RowKit.intOf]; omega
    · exfalso
      obtain rfl : i = m := by omega
      have h1 := HAN.out
      rw [List.take_of_length_le (by rw [Hb.out]; exact Nat.le_refl _), HBD.out] at h1
      cases h1

set_option maxRecDepth 100000 in
set_option maxHeartbeats 2000000 in
theorem refAdd_full (w : World) (p gt : Nat) (vf : Value) (g len cap base n put got : Nat) (t : Nat → Bool) (ab : Option Addr) (m capb : Nat) (bufs : List Bf) (hd : RBox w p gt vf g len cap base n put got) (ht : Tk w gt n t) (n2 : n ≤ 256)
    (hb : bufs.length = m) (hB : Bufs w ab bufs g) (hm : m ≤ 65536) (h0 : 0 < m) (hok : ∀ b ∈ bufs, okB b) (hf : (fr t n).length < m) :
    Calls Try.prog 27 #[.pointer (some ⟨p, 0, none⟩), .slice ab m capb] w fun e w' => e = .returned (.tuple #[.int .i64 0, .int .i64 7]) ∧ w' = w := by
  have HB := hid hB
  have Hb := hid hb
  have HOK := hid hok
  have hfree := refFree_any w p gt vf g len cap base n put got t hd ht n2
  rw [← fr_cnt] at hfree
  have HFR := hid hfree
  have g0 : ((m : Int) == 0) = false := by rw [beq_eq_false_iff_ne]; omega
  have g1 : ((fr t n).length : Int) < (m : Int) := by omega
  generalize (fr t n).length = fn at *
  clear hb hB hok hfree hd ht hf
  go_enter Try.func27, Try.ntmps27
  go_wp2
  go_loopw [6] (fun x wx => ∃ i : Nat, i ≤ m ∧ x = .int .i64 i ∧ wx = w) (fun x _ => m - (RowKit.intOf x).toNat)
  case atStart => exact ⟨0, Nat.zero_le _, rfl, rfl⟩
  case round =>
    obtain ⟨i, hi, rfl, hww⟩ := hrel
    rw [hww]
    clear hww
    by_cases hil : i < m
    · have hii : (i : Int) < m := by omega
      have hi0 : (0 : Int) ≤ (i : Int) := by omega
      have ei : IntKind.i64.wrap ((i : Int) + 1) = (i : Int) + 1 := IntWalk.i64_in _ (by omega)
      obtain ⟨bb, ob, hab, hbg, c0, c1, c2⟩ := HB.out i (by rw [Hb.out]; exact hil)
      have hbok := okB_get HOK.out Hb.out hil
      subst hab
      generalize bufs.getD i default = bf at *
      obtain ⟨baddr, blen, bwt⟩ := bf
      obtain ⟨k1, k1', k2, k3⟩ := hbok
      simp only at c0 c1 c2 k1 k1' k2 k3
      have q1 : ¬ (baddr < 0) := by omega
      have q2 : ¬ (blen < 0) := by omega
      have q3 : ¬ ((4294967296 : Int) ≤ blen) := by omega
      clear k1 k1' k2 k3
      go_wp2
      go_roundw
      case rel => exact ⟨i + 1, by omega, by go_num, trivial⟩
      case measure => simp only [RowKit.intOf]; omega
    · have hii : ¬ ((i : Int) < m) := by omega
      go_wp2_with (go_at_call 13; refine HFR.out.mono ?_; rintro e w5 ⟨rfl, hw5⟩; rw [hw5]; clear hw5 w5)
      go_ret2
      exact ⟨rfl, rfl⟩
end Go.Proofs.Ytjnhcbompgmknaa
