/- row: so many blocks one behind the other. -/
import Derived.Test.YtdbpjdaaggenpaaLaws
namespace Go.Proofs.Ytdbpjdaaggenpaa
open Go.RowKit

def rowsL (b : Int) (m : Nat) : List (List Int) := (List.range m).map fun i : Nat => blk (b + i)
def rowL (b : Int) (m : Nat) : List Int := (rowsL b m).flatten
theorem rowsL_succ (b : Int) (m : Nat) : rowsL b (m + 1) = rowsL b m ++ [blk (b + m)] := by simp [rowsL, List.range_succ]
theorem rowL_succ (b : Int) (m : Nat) : rowL b (m + 1) = rowL b m ++ blk (b + m) := by simp [rowL, rowsL_succ]
theorem rowL_len (b : Int) : ∀ m, (rowL b m).length = 512 * m
  | 0 => rfl
  | m + 1 => by rw [rowL_succ, List.length_append, rowL_len b m, blk_len]; omega
theorem rowsL_len (b : Int) (m : Nat) : (rowsL b m).length = m := by simp [rowsL]
theorem rowsL_get (b : Int) (m i : Nat) (h : i < m) : (rowsL b m).getD i [] = blk (b + i) := by simp [rowsL, List.getD, h]
theorem rowL_get (b : Int) : ∀ (m i j : Nat), i < m → j < 512 → (rowL b m).getD (512 * i + j) 0 = (blk (b + i)).getD j 0
  | 0, _, _, h, _ => by omega
  | m + 1, i, j, h, hj => by
    rw [rowL_succ, getD_app, rowL_len]
    by_cases e : i = m
    · subst e
      rw [if_neg (by omega)]
      congr 1
      omega
    · rw [if_pos (by omega)]
      exact rowL_get b m i j (by omega) hj
theorem blk_mod (b : Int) : blk (b % 256) = blk b := by
  unfold blk blkAt
  apply List.map_congr_left
  intro i _
  omega

set_option maxRecDepth 100000 in
set_option maxHeartbeats 1000000 in
theorem row_any (b : Int) (n : Int) (m : Nat) (hn : 0 ≤ n) (hm : (m : Int) = min n 20) (w : World) :
    Calls Try.prog 15 #[.int .u8 b, .int .i64 n] w fun e w' => ∃ v, e = .returned v ∧ w'.ownsRow w.heap.size 5 1 v (512 * m) ((rowL b m).map fun x => Value.int .u8 x) ∧ (v = .slice none 0 0 ↔ m = 0) ∧ Below w.heap.size w w' := by
  obtain ⟨i0, hi, hz0, hz1, hz2⟩ := info5b
  have hn0 : ¬ (n < 0) := by omega
  go_enter Try.func15, Try.ntmps15
  go_wp2_with fail
  go_loopw [6, 5] (fun i x wr => ∃ k : Nat, k ≤ m ∧ i = .int .i64 k ∧ wr.ownsRow w.heap.size 5 1 x (512 * k) ((rowL b k).map fun x => Value.int .u8 x) ∧ (x = .slice none 0 0 ↔ k = 0) ∧ Below w.heap.size w wr) (fun i _ _ => m - (RowKit.intOf i).toNat)
  case atStart => exact ⟨0, Nat.zero_le _, rfl, World.ownsRow_nil _ _ _ _, by simp, Below.refl _ _⟩
  case round =>
    obtain ⟨k, hk, rfl, hox, hnil, hbe⟩ := hrel
    have HO := hid hox
    have HN := hid hnil
    have HB := hid hbe
    clear hox hnil hbe
    by_cases hlt : k < m
    · have hk1 : (k : Int) < n := by omega
      have hk2 : (k : Int) < 20 := by omega
      go_wp2_with fail
      refine (block_f _ wr).mono ?_
      rintro e w4 ⟨rfl, hb4, hf4⟩
      have HO4 := hid (owns_keep HO.out (fun g hg => hb4.block g (owns_lt HO.out hg).1))
      rw [blk_mod] at hf4
      have HSrc : Hid (∀ j u, ((blk (b + k)).map fun x => Value.int .u8 x)[j]? = some u → w4.cell? ((⟨wr.heap.size, 0, none⟩ : Addr).add j) = some u) := hid fun j u hj => by
        rw [List.getElem?_map] at hj
        simp only [Option.map_eq_some_iff] at hj
        obtain ⟨y, hy, rfl⟩ := hj
        have hj2 := (List.getElem?_eq_some_iff.1 hy).1
        have := hf4.cell j hj2
        rw [add_addr, Nat.zero_add, this]
        simp [List.getD, hy]
      have HB4 := hid (HB.out.trans (hb4.mono HB.out.size))
      have HBb := hid hb4
      clear hb4 hf4 HO
      have hsz4 := HB4.out.size
      go_wp2_with (at_builtin; refine wpList_append_own_at _ rfl _ _ 42 rfl w.heap.size 5 i0 (.int .u8 0) 1 1 Try.underlying42 hi hz0 hz1 hz2 rfl (by decide) _ _ _ rfl HO4.out ⟨wr.heap.size, 0, none⟩ 512 512 ((blk (b + k)).map fun x => Value.int .u8 x) rfl (by rw [List.length_map, blk_len]) HSrc.out (by intro u hu; simp at hu; obtain ⟨y, _, rfl⟩ := hu; rfl) (by unfold maxLen; omega) (by omega) hsz4 ?_; intro v' w8 hown' hgrow hnil' hat)
      go_roundw
      case rel =>
        refine ⟨k + 1, by omega, by go_num, ?_, ?_, ?_⟩
        · rw [rowL_succ, List.map_append, show 512 * (k + 1) = 512 * k + 512 by omega]
          exact hown'
        · constructor
          · intro e; have := (hnil'.1 e).2; omega
          · intro e; omega
        · exact HB4.out.grown hgrow hsz4 (fun g e => (owns_lt HO4.out e).2)
      case measure => simp [RowKit.intOf]; omega
    · obtain rfl : k = m := by omega
      by_cases h1 : (k : Int) < n
      · have h2 : ¬ ((k : Int) < 20) := by omega
        go_wp2
        go_ret
        exact ⟨_, rfl, HO.out, HN.out, HB.out⟩
      · go_wp2
        go_ret
        exact ⟨_, rfl, HO.out, HN.out, HB.out⟩

theorem WriteRow (w : World) (pd : Nat) (A : Abs) (n : Nat) (al : Nat → Prop) (hd : Disk w pd A n al) (x b : Int) (m base : Nat) (v : Value) (hown : w.ownsRow base 5 1 v (512 * m) ((rowL b m).map fun x => Value.int .u8 x)) (hng : ∀ g, v.ownBlock = some g → ¬ al g)
    (hm : m ≤ 65536) (hh : hasB A.N x m = true) (hn : n ≤ 549755813888) :
    Calls Try.prog 14 #[.pointer (some ⟨pd, 0, none⟩), .int .i64 x, v] w fun e w' => e = .returned (.int .i64 0) ∧ Step w w' pd (wrA A x (rowsL b m)) (n + m) al := by
  have hm1 : 1 ≤ m := by unfold hasB at hh; simp at hh; omega
  rcases hown.2 with ⟨_, h0⟩ | ⟨g, cap, cur, rfl, _, hhp, hc1, _, hcs, ht⟩
  · omega
  · refine Write_any w pd A n al hd x g 0 cap m (512 * m) rfl hm hc1 hh hn (rowsL b m) (rowsL_len b m) (fun i hi => by rw [rowsL_get b m i hi]; exact ⟨blk_len _, blk_isB _⟩) (fun i hi j hj => ?_) (Array.getElem?_eq_some_iff.1 hhp).1 (hng g rfl)
    rw [rowsL_get b m i hi, ← rowL_get b m i j hi hj, Nat.zero_add]
    have hlt : 512 * i + j < 512 * m := by omega
    have : cur[512 * i + j]? = some (.int .u8 ((rowL b m).getD (512 * i + j) 0)) := by
      have e : (cur.toList.take (512 * m * 1))[512 * i + j]? = ((rowL b m).map fun x => Value.int .u8 x)[512 * i + j]? := by rw [ht]
      rw [List.getElem?_take, if_pos (by omega), List.getElem?_map] at e
      rw [← Array.getElem?_toList, e, List.getD, List.getElem?_eq_getElem (by rw [rowL_len]; exact hlt)]
      rfl
    simp [World.cell?, hhp, this]

theorem readTo_get (A : Abs) (x : Int) : ∀ (m : Nat), (∀ i : Nat, i < m → (blockOf A (x + i)).length = 512) → ∀ i j : Nat, i < m → j < 512 → (readTo A x m).getD (512 * i + j) 0 = (blockOf A (x + i)).getD j 0
  | 0, _, _, _, h, _ => by omega
  | m + 1, hl, i, j, h, hj => by
    have hlen : (readTo A x m).length = 512 * m := by
      have gen : ∀ k, k ≤ m → (readTo A x k).length = 512 * k := by
        intro k
        induction k with
        | zero => intro _; rfl
        | succ k ih => intro hk; rw [readTo, List.length_append, ih (by omega), hl k (by omega)]; omega
      exact gen m (Nat.le_refl _)
    rw [readTo, getD_app, hlen]
    by_cases e : i = m
    · subst e
      rw [if_neg (by omega)]
      congr 1
      omega
    · rw [if_pos (by omega)]
      exact readTo_get A x m (fun i hi => hl i (by omega)) i j (by omega) hj

theorem Fresh.convAt {w : World} {g : Nat} {l : List Int} (h : Fresh w g l) (k c : Nat) (e : List Int) (he : e.length = 512) (hk : 512 * k + 512 ≤ l.length) (hj : ∀ j, j < 512 → l.getD (512 * k + j) 0 = e.getD j 0) :
    (convert 42 9 (.slice (some ⟨g, 512 * k, none⟩) 512 c)).run Try.prog w = .ok (.string (strOfNums e)) w :=
  run_convert_bytes_arg w 42 5 Try.underlying42 Try.underlying5 g (512 * k) 512 c e he (fun i hi => by rw [← hj i hi]; exact h.cell _ (by omega)) 9 Try.underlying9
set_option maxRecDepth 100000 in
theorem cut_run2 (g N lo hi : Nat) (h : lo < hi) (hh : hi ≤ N) (W : World) : (Instr.slice 42 (.slice (some ⟨g, 0, none⟩) N N) (some (.int .i64 lo)) (some (.int .i64 hi)) none).run Try.prog W = .ok (.slice (some ⟨g, lo, none⟩) (hi - lo) (N - lo)) W := by
  have hz : (sizeOf 5).run Try.prog W = .ok 1 W := by kernel_rfl
  rw [run_slice_lh (P := Try.prog) W 42 (some ⟨g, 0, none⟩) N N Try.underlying42 .i64 .i64 lo hi (by omega) (by omega) (by omega)]
  have e : Try.prog.elem 42 = 5 := by kernel_rfl
  rw [e, hz]
  have h2 : ¬ (N = lo) := by omega
  simp [sliced, Addr.add, h2]
  intro h3; simp [h3]

/-- Two rising lists of the same numbers are one. -/
theorem rising_eq {L M : List Int} (hL : L.Pairwise (· < ·)) (hM : M.Pairwise (· < ·)) (h : ∀ k, k ∈ L ↔ k ∈ M) : L = M := by
  have n1 : L.Nodup := hL.imp fun h e => by omega
  have n2 : M.Nodup := hM.imp fun h e => by omega
  have hp := (List.perm_ext_iff_of_nodup n1 n2).2 h
  have h1 : L.mergeSort leI = L := List.mergeSort_of_pairwise (hL.imp fun h => by simp [leI]; omega)
  have h2 : M.mergeSort leI = M := List.mergeSort_of_pairwise (hM.imp fun h => by simp [leI]; omega)
  rw [← h1, ← h2, mergeSort_of_perm_i hp]
end Go.Proofs.Ytdbpjdaaggenpaa
