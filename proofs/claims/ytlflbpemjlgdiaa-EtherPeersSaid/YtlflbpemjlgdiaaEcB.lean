/- Hosts: hostOf. -/
import Derived.Test.YtlflbpemjlgdiaaEcA
namespace Go.Proofs.Ytlflbpemjlgdiaa
open Go.RowKit Go.Maps
set_option linter.unusedVariables false

abbrev hostC (m : Mac) (ip : Int) : Array Value := #[.int .u8 m.a, .int .u8 m.b, .int .u8 m.c, .int .u8 m.d, .int .u8 m.e, .int .u8 m.f, .int .u32 ip]
theorem sizeHost : (Try.prog.info? 70).map (·.size) = some 7 := by kernel_rfl
theorem hostC_one (m : Mac) (ip : Int) : (hostC m ip).all (·.oneCell') = true := by simp [Value.oneCell']
/-- The number of four bytes at a place. -/
def ipAt (l : List Int) (k : Nat) : Int := beOf ((l.drop k).take 4)
theorem isB_cut {l : List Int} (h : ∀ x ∈ l, IsB x) (k n : Nat) : ∀ x ∈ (l.drop k).take n, IsB x := fun x hx => h x (List.mem_of_mem_drop (List.mem_of_mem_take hx))
theorem be_cut_bd (l : List Int) (k n : Nat) (h : ∀ x ∈ l, IsB x) (hk : k + n ≤ l.length) : 0 ≤ beOf ((l.drop k).take n) ∧ beOf ((l.drop k).take n) < 256 ^ n := by
  have := beOf_bd _ (isB_cut h k n)
  rwa [show ((l.drop k).take n).length = n by simp; omega] at this
theorem ipAt_bd (l : List Int) (k : Nat) (h : ∀ x ∈ l, IsB x) (hk : k + 4 ≤ l.length) : IsU (ipAt l k) := by
  have := be_cut_bd l k 4 h hk
  unfold IsU ipAt; omega
/-- num.Be where the bytes are. -/
theorem be_in (w : World) (a : Option Addr) (n c : Nat) (l : List Int) (k m : Nat) (hn : l.length = n) (hc : n ≤ c) (hm : n ≤ maxLen) (hw : widB m = true) (hk : k + m ≤ n) (hb : Bytes w a l) :
    Calls Try.prog 24 #[.slice a n c, .int .i64 k, .int .i64 m] w fun e w' => e = .returned (.tuple #[.int .u64 (beOf ((l.drop k).take m)), .int .i64 0]) ∧ Below w.heap.size w w' := by
  refine (numBe_at a n c l k m w hn (by omega) hc hb).mono ?_
  rintro e w' ⟨rfl, q, rfl⟩
  have hi : insB l.length k m = true := by simp [insB]; omega
  obtain ⟨e1, _, e2⟩ := rd_yes l k m hw hi
  rw [← hn, e1, e2]
  exact ⟨rfl, below_drewN (Below.refl _ _) q⟩
set_option maxRecDepth 100000 in
set_option maxHeartbeats 1000000 in
theorem hostOf_any (w : World) (a : Option Addr) (n c : Nat) (l : List Int) (hn : l.length = n) (h10 : 10 ≤ n) (hnc : n ≤ c) (hm : n ≤ maxLen) (hb : Bytes w a l) :
    Calls Try.prog 48 #[.slice a n c] w fun e w' => e = .returned (.agg (hostC (macOf l) (ipAt l 6))) ∧ Below w.heap.size w w' := by
  obtain ⟨g, hg⟩ : ∃ g, w.heap.size = g := ⟨_, rfl⟩
  obtain ⟨W1, hW1⟩ : ∃ W, W = w.alloc (.cells #[.int .u8 0, .int .u8 0, .int .u8 0, .int .u8 0, .int .u8 0, .int .u8 0, .int .u32 0] 70) := ⟨_, rfl⟩
  have b1 : Below w.heap.size w W1 := by rw [hW1]; exact below_alloc (Below.refl _ _) (Nat.le_refl _) _
  have h1 : W1.heap[g]? = some (.cells #[.int .u8 0, .int .u8 0, .int .u8 0, .int .u8 0, .int .u8 0, .int .u8 0, .int .u32 0] 70 (0, 0)) := by rw [hW1, ← hg]; exact alloc_new w _
  have HBE := hid (be_in W1 a n c l 6 4 hn hnc hm rfl (by omega) (hb.later b1))
  have HFS : Hid (∀ W, Below w.heap.size w W → Calls Try.prog 25 #[.slice a n c] W fun e w' => e = .returned (.agg (macC (macOf l))) ∧ Below W.heap.size W w') := hid (fun W h => firstSix_any W a n c l hn (by omega) (hb.later h))
  have hip := ipAt_bd l 6 hb.isB (by omega)
  unfold IsU at hip
  unfold ipAt at hip ⊢
  generalize beOf ((l.drop 6).take 4) = ip at *
  generalize macOf l = m at *
  have hwr : ip % 4294967296 = ip := Int.emod_eq_of_lt hip.1 hip.2
  have H1 := hid h1
  have HB1 := hid b1
  have HG := hid hg
  clear h1 b1 hip hb hn h10 hnc hm
  have HW := hW1.symm
  clear hW1
  go_enter Try.func48, Try.ntmps48
  go_wp2_with (first
    | (go_at_call 24; refine HBE.out.mono ?_; rintro e w2 ⟨rfl, hb2⟩; have HB2 := hid (HB1.out.trans (hb2.mono HB1.out.size)); have H2 := hid ((hb2.block g (Array.getElem?_eq_some_iff.1 H1.out).1).trans H1.out); clear hb2)
    | (go_at_call 25; refine (HFS.out _ HB2.out).mono ?_; rintro e w3 ⟨rfl, hb3⟩; have HB3 := hid (HB2.out.trans (hb3.mono HB2.out.size)); have H3 := hid ((hb3.block g (Array.getElem?_eq_some_iff.1 H2.out).1).trans H2.out); clear hb3)
    | (refine wpList_store_row rfl 70 _ _ rfl g (hostC m ip) rfl rfl 70 _ H3.out sizeHost rfl (hostC_one m ip) ?_))
  refine bodyPost_ret (results_c rfl _ _ g (hostC m ip) _ _ rfl (setRow_heap _ g _ _ _ _ H3.out) Try.underlying70 sizeHost) rfl ⟨rfl, ?_⟩
  exact (setRow_mods _ g _).to_below HB3.out HB3.out.size (fun x hx => by rw [hx, HG.out]; exact Nat.le_refl _)
end Go.Proofs.Ytlflbpemjlgdiaa
