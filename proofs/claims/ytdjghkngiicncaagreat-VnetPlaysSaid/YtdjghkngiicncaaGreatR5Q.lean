/- The program's pair and the document's, side by side. -/
import Derived.Test.YtdjghkngiicncaaGreatR5P
import Derived.Test.YtdjghkngiicncaaGreatNetV
namespace Go.Proofs.YtdjghkngiicncaaGreat
open Go.RowKit

/-! ### what Receive and Sent leave -/
theorem recvN_free (H : Nh) : ∀ (k : Nat) (S : Sd) (Ls : List (List Int)), Ok H.qi S → One S.A → S.A.free = [] → (recvN H k S Ls).1.A.free = [] ∧ (recvN H k S Ls).2.length ≤ Ls.length + k
  | 0, S, Ls, _, _, hf => ⟨hf, Nat.le_refl _⟩
  | k + 1, S, Ls, h, h1, hf => by
    rw [recvN]
    split
    · rename_i he
      obtain ⟨x, e1, e2, e3, _⟩ := used_ok h h1 hf he
      have hp : 0 < (usedS H.qi S).A.free.length := by rw [e3]; simp
      have ih := recvN_free H k (addS H.qi (usedS H.qi S) ⟨(H.fi + (usedR H.qi S).1.toNat * 1528 : Nat), 1526, true⟩) (if fdB (usedR H.qi S).2.1 then Ls ++ [frAt S.f (H.fi + (usedR H.qi S).1.toNat * 1528) (usedR H.qi S).2.1.toNat] else Ls) (h.used.add hp _) (One.add (One.used h1) hp) (by show (usedS H.qi S).A.free.drop 1 = []; rw [e3]; rfl)
      refine ⟨ih.1, Nat.le_trans ih.2 ?_⟩
      split
      · rw [List.length_append]; simp; omega
      · omega
    · rename_i hk
      have hf2 : (usedS H.qi S).A.free = [] := by
        unfold usedS
        split
        · exact hf
        · rename_i hne
          split
          · exact hf
          · rename_i ch hl
            unfold usedR at hk
            rw [if_neg hne, hl] at hk
            simp at hk
      have ih := recvN_free H k (usedS H.qi S) Ls h.used (One.used h1) hf2
      exact ⟨ih.1, by omega⟩
theorem recvAll_free {H : Nh} {S : Ns} (h : Ok H.qi S.i) (h1 : One S.Ai) (hf : S.Ai.free = []) : (recvAll H S).1.A.free = [] ∧ (recvAll H S).2.length ≤ 65536 := by
  have h2 := recvN_free H (more H.qi S.i) S.i [] h h1 hf
  refine ⟨h2.1, Nat.le_trans h2.2 ?_⟩
  unfold more
  simp
  omega
theorem sentN_len (q : Qu) : ∀ (k : Nat) (S : Sd) (Ls : List (List Int)), (sentN q k S Ls).2.length ≤ Ls.length + k
  | 0, S, Ls => Nat.le_refl _
  | k + 1, S, Ls => by
    rw [sentN]
    split
    · exact Nat.le_trans (sentN_len q k _ _) (by omega)
    · split
      · refine Nat.le_trans (sentN_len q k _ _) ?_
        rw [List.length_append]; simp; omega
      · exact Nat.le_trans (sentN_len q k _ _) (by omega)
theorem sentAll_len (H : Nh) (S : Ns) : (sentAll H S).2.length ≤ 65536 := by
  refine Nat.le_trans (sentN_len H.qo (left H.qo S.o) S.o []) ?_
  unfold left
  simp
  omega

/-! ### both pairs -/
structure Two (w0 w : World) (lab lab2 : Nat → Nat) (B : Rb) (H : Nh) (S1 S2 : Ns) (c : Nat) : Prop where
  net : Net w lab H S1 c
  rnet : RNet w lab2 B H S2
  ap : ∀ b, lab b = 0 ∨ lab2 b = 0
  low : ∀ b, b < w0.heap.size → lab b = 0 ∧ lab2 b = 0
  bel : Below w0.heap.size w0 w
section
variable {w0 w w' : World} {lab lab' lab2 lab2' : Nat → Nat} {B : Rb} {H : Nh} {S1 S2 S' : Ns} {c c' : Nat}
theorem RNet.lt (h : RNet w lab2 B H S2) : ∀ b, lab2 b ≠ 0 → b < w.heap.size := let ⟨_, _, d⟩ := h; d.lt
theorem RNet.outside (h : RNet w lab2 B H S2) {P : Nat → Prop} (hm : Mods P w w') (hP : ∀ b, P b → lab2 b = 0) : RNet w' lab2 B H S2 := let ⟨v1, v2, d⟩ := h; ⟨v1, v2, d.outside hm hP⟩
theorem RNet.mem (h : RNet w lab2 B H S2) : Mem w B.g H.N S2.f := let ⟨_, _, d⟩ := h; d.mem
theorem Two.prog (h : Two w0 w lab lab2 B H S1 S2 c) (hn : Net w' lab' H S' c') (hk : Keep lab w lab' w') : Two w0 w' lab' lab2 B H S' S2 c' := by
  have hsz : ∀ b, b < w0.heap.size → b < w.heap.size := fun b hb => Nat.lt_of_lt_of_le hb h.bel.size
  refine ⟨hn, h.rnet.outside hk.2 (fun b e => (h.ap b).resolve_left e), fun b => ?_, fun b hb => ⟨by rw [hk.1 b (hsz b hb)]; exact (h.low b hb).1, (h.low b hb).2⟩, hk.2.to_below h.bel h.bel.size (fun b e => ?_)⟩
  · by_cases e : b < w.heap.size
    · rw [hk.1 b e]; exact h.ap b
    · exact .inr (Classical.byContradiction (fun e2 => e (h.rnet.lt b e2)))
  · by_cases e2 : b < w0.heap.size
    · exact absurd (h.low b e2).1 e
    · omega
theorem Two.ref (h : Two w0 w lab lab2 B H S1 S2 c) (hn : RNet w' lab2' B H S') (hk : Keep lab2 w lab2' w') : Two w0 w' lab lab2' B H S1 S' c := by
  have hsz : ∀ b, b < w0.heap.size → b < w.heap.size := fun b hb => Nat.lt_of_lt_of_le hb h.bel.size
  refine ⟨h.net.outside hk.2 (fun b e => (h.ap b).resolve_right e), hn, fun b => ?_, fun b hb => ⟨(h.low b hb).1, by rw [hk.1 b (hsz b hb)]; exact (h.low b hb).2⟩, hk.2.to_below h.bel h.bel.size (fun b e => ?_)⟩
  · by_cases e : b < w.heap.size
    · rw [hk.1 b e]; exact h.ap b
    · exact .inl (Classical.byContradiction (fun e2 => e (h.net.lt b e2)))
  · by_cases e2 : b < w0.heap.size
    · exact absurd (h.low b e2).2 e
    · omega
theorem Two.below (h : Two w0 w lab lab2 B H S1 S2 c) (hb : Below w.heap.size w w') : Two w0 w' lab lab2 B H S1 S2 c :=
  ⟨h.net.below hb, h.rnet.outside (Mods.of_below (al := fun _ => False) hb) (fun _ e => e.elim), h.ap, h.low, h.bel.trans (hb.mono h.bel.size)⟩
theorem Two.new (h : Two w0 w lab lab2 B H S1 S2 c) {b : Nat} (hb : w.heap.size ≤ b) : lab b = 0 ∧ lab2 b = 0 :=
  ⟨Classical.byContradiction (fun e => by have := h.net.lt b e; omega), Classical.byContradiction (fun e => by have := h.rnet.lt b e; omega)⟩
theorem Two.more (h : Two w0 w lab lab2 B H S1 S2 c) {c' : Nat} (hc : c ≤ c') : Two w0 w lab lab2 B H S1 S2 c' := ⟨h.net.more hc, h.rnet, h.ap, h.low, h.bel⟩
end

/-! ### calls that came in -/
structure C5 where
  k : Int
  n : Int
  m : Int
  a : Option Addr
  l : List Int
  cap : Nat
instance : Inhabited C5 := ⟨⟨0, 0, 0, none, [], 0⟩⟩
def C5At (w : World) (a : Option Addr) (cs : List C5) : Prop := ∀ i, i < cs.length → ∃ b off, a = some ⟨b, off, none⟩ ∧ w.cell? ⟨b, off + i * 4, none⟩ = some (.int .i64 (cs.getD i default).k) ∧ w.cell? ⟨b, off + i * 4 + 1, none⟩ = some (.int .i64 (cs.getD i default).n) ∧
  w.cell? ⟨b, off + i * 4 + 2, none⟩ = some (.int .i64 (cs.getD i default).m) ∧ w.cell? ⟨b, off + i * 4 + 3, none⟩ = some (.slice (cs.getD i default).a (cs.getD i default).l.length (cs.getD i default).cap) ∧ Bytes w (cs.getD i default).a (cs.getD i default).l ∧ (cs.getD i default).l.length ≤ 140737488355328
/-- 'append([]byte{}, l...)'. -/
theorem copyb_run (w : World) (a : Option Addr) (cap : Nat) (L : List Int) (hB : Bytes w a L) (hl : L.length ≤ 140737488355328) (ty : TypeId) :
    ∃ a' cp w', (Builtin.append_ #[25, 25] ty #[.slice (some ⟨w.heap.size, 0, none⟩) 0 0, .slice a L.length cap]).run Tryz.prog (w.alloc (.cells #[] 5)) = .ok (.slice a' L.length cp) w' ∧ (∀ b off, a' = some ⟨b, off, none⟩ → w.heap.size ≤ b ∧ b < w'.heap.size) ∧ Bytes w' a' L ∧ Below w.heap.size w w' := by
  obtain ⟨i, hi, hz0, hz1, hz2⟩ := info5b
  have hb : Below w.heap.size w (w.alloc (.cells #[] 5)) := (Below.refl _ _).alloc (Nat.le_refl _) _
  by_cases h0 : L.length = 0
  · have e : L = [] := List.eq_nil_of_length_eq_zero h0
    subst e
    refine ⟨some ⟨w.heap.size, 0, none⟩, 0, w.alloc (.cells #[] 5), ?_, fun b off e => by simp at e; simp; omega, Bytes.nil_ _ _, hb⟩
    cases a with
    | none => simp [Builtin.append_, run_underlying Tryz.underlying25, sizeOf, typeInfo, hi, Builtin.lenOf, Builtin.firstCells, storeCells]
    | some a =>
      have := run_firstCells_some (P := Tryz.prog) (w.alloc (.cells #[] 5)) 1 0 a 0 cap [] (by simp) (by simp)
      simp [Builtin.append_, run_underlying Tryz.underlying25, sizeOf, typeInfo, hi, hz1, Builtin.lenOf, this, storeCells]
  · obtain ⟨ab, ao, rfl, hc⟩ := hB.open_ (by omega)
    obtain ⟨v', w', hr, k1, k2, _, k4⟩ := run_append_own_at (P := Tryz.prog) (w := w.alloc (.cells #[] 5)) w.heap.size 25 ty 5 i (.int .u8 0) 1 1 Tryz.underlying25 hi hz0 hz1 hz2 rfl (by decide) (.slice (some ⟨w.heap.size, 0, none⟩) 0 0) 0 [] (own_empty w) ⟨ab, ao, none⟩ L.length cap (L.map fun x => Value.int .u8 x) (by rw [List.length_map, Nat.mul_one]) (fun j u hj => by
      simp at hj
      obtain ⟨y, hy, rfl⟩ := hj
      have hj2 : j < L.length := (List.getElem?_eq_some_iff.1 hy).1
      rw [add_addr, cell_later hb (hc j hj2)]
      simp [List.getD, hy]) (fun u hu => by simp at hu; obtain ⟨y, _, rfl⟩ := hu; rfl) (by unfold maxLen; omega) (by omega) (by simp)
    have ho : Own w' w.heap.size v' L := by
      unfold Own
      simpa using k1
    obtain ⟨b, cp, rfl, _, _, h1, h2, h3⟩ := ho.open_ (by omega) hB.isB
    exact ⟨some ⟨b, 0, none⟩, cp, w', hr, fun b' off e => by have := Blk.lt h3; simp at e; omega, Blk.bytes h3, hb.grown k2 hb.size fun k hk => by simp [Value.ownBlock] at hk; omega⟩
/-- string(b). -/
theorem Bytes.conv {w : World} {a : Option Addr} {L : List Int} (h : Bytes w a L) (cap : Nat) : (convert 25 9 (.slice a L.length cap)).run Tryz.prog w = .ok (.string (strOfNums L)) w := by
  by_cases h0 : L.length = 0
  · have e : L = [] := List.eq_nil_of_length_eq_zero h0
    subst e
    have e2 : strOfNums [] = ByteArray.empty := rfl
    rw [e2]
    cases a with
    | none => exact run_convert_bytes_nil w 25 5 Tryz.underlying25 Tryz.underlying5 0 cap 9 Tryz.underlying9
    | some a =>
      show (convert 25 9 (.slice (some a) 0 cap)).run Tryz.prog w = _
      rw [run_convert_bytes_string w 25 9 5 _ 0 cap Tryz.underlying25 Tryz.underlying5 Tryz.underlying9]
      simp [Conv.bytesToString, loadCells]
      rfl
  · obtain ⟨ab, ao, rfl, hc⟩ := h.open_ (by omega)
    exact run_convert_bytes_arg w 25 5 Tryz.underlying25 Tryz.underlying5 ab ao L.length cap L rfl hc 9 Tryz.underlying9
theorem Crd.outside {w w' : World} {lab : Nat → Nat} {H : Nh} {f : Nat → Int} {Ai Ao : Abs} {c : Nat} (h : Crd w lab H f Ai Ao c) {P : Nat → Prop} (hm : Mods P w w') (hP : ∀ b, P b → lab b = 0) : Crd w' lab H f Ai Ao c :=
  have kp : ∀ b, lab b ≠ 0 → w'.heap[b]? = w.heap[b]? := fun b e => hm.block b (h.lt b e) (fun e2 => e (hP b e2))
  ⟨fun b e => Nat.lt_of_lt_of_le (h.lt b e) hm.size, h.di.mods hm (fun b e1 e2 => by have := hP b e2; omega), h.dq.mods hm (fun b e1 e2 => by have := hP b e2; omega), h.mem.keep (kp _ (by rw [h.l5]; omega)), (kp _ (by rw [h.l6]; omega)).trans h.card, h.l5, h.l6, h.le, h.l34, h.oi, h.oo⟩
/-- Both pairs, made. -/
theorem four_made (w0 w : World) (H : Nh) (g2 : Nat) (hm : Mem w H.g H.N (fun _ => 0)) (hm2 : Mem w g2 H.N (fun _ => 0)) (hne : g2 ≠ H.g) (hbel : Below w0.heap.size w0 w) (hg : w0.heap.size ≤ H.g) (hg2 : w0.heap.size ≤ g2) :
    Calls Tryz.prog 7 #[.slice (some ⟨H.g, 0, none⟩) H.N H.N, .int .i64 H.base, .int .i64 H.n] w fun e w1 => ∃ pc, e = .returned (.tuple #[.pointer (some ⟨pc, 0, none⟩), .int .i64 0]) ∧
    Calls Tryz.prog 8 #[.slice (some ⟨g2, 0, none⟩) H.N H.N, .int .i64 H.base, .int .i64 H.n] w1 fun e w2 => ∃ pc2, e = .returned (.tuple #[.pointer (some ⟨pc2, 0, none⟩), .int .i64 0]) ∧
    Calls Tryz.prog 9 #[.slice (some ⟨H.g, 0, none⟩) H.N H.N, .int .i64 H.base, .int .i64 H.n] w2 fun e w3 => ∃ pp, e = .returned (.tuple #[.pointer (some ⟨pp, 0, none⟩), .int .i64 0]) ∧
    Calls Tryz.prog 10 #[.slice (some ⟨g2, 0, none⟩) H.N H.N, .int .i64 H.base, .int .i64 H.n] w3 fun e w4 => ∃ pp2, e = .returned (.tuple #[.pointer (some ⟨pp2, 0, none⟩), .int .i64 0]) ∧
      ∃ (H' : Nh) (B : Rb) (S : Ns) (lab lab2 : Nat → Nat), Two w0 w4 lab lab2 B H' S S H.n ∧ S.Ai.free = [] ∧ H'.pc = pc ∧ H'.pp = pp ∧ B.pc = pc2 ∧ B.pp = pp2 ∧ H'.g = H.g ∧ B.g = g2 ∧ H'.N = H.N ∧ H'.n = H.n := by
  have hgl := hm.lt
  have hgl2 := hm2.lt
  refine (NewCard_ok w H (fun _ => 0) hm).mono ?_
  rintro e w1 ⟨pc, di, dq, rfl, hmo1, lab, hc1, hl1⟩
  refine ⟨pc, rfl, ?_⟩
  have hm21 : Mem w1 g2 H.N (fun _ => 0) := hm2.mods hmo1 hne
  refine (rNewCard_ok w1 H g2 (fun _ => 0) hm21).mono ?_
  rintro e w2 ⟨B, rfl, hBg, hmo2, lab2, v1, hr2, hl2⟩
  refine ⟨B.pc, rfl, ?_⟩
  have hc2 := hc1.outside hmo2 (fun b e => by rw [e]; exact hl1 g2 hgl2 hne)
  refine (NewPort_ok w2 { H with pc := pc, di := di, dq := dq } (Nat.lt_of_lt_of_le hgl (Nat.le_trans hmo1.size hmo2.size))).mono ?_
  rintro e w3 ⟨pp, vi, vo, rfl, hb3, hv3, hv4, hp3, h31, h32, h33, h34⟩
  refine ⟨pp, rfl, ?_⟩
  have hn3 := hc2.port hb3 hv3 hv4 hp3 h31 h32 h33 h34
  have hr3 := hr2.below hb3
  refine (rNewPort_ok w3 H g2 (Nat.lt_of_lt_of_le hgl2 (Nat.le_trans hmo1.size (Nat.le_trans hmo2.size hb3.size)))).mono ?_
  rintro e w4 ⟨pp2, vi2, vo2, rfl, hb4, k1, k2, kp, o1, o2, o3, o4⟩
  refine ⟨pp2, rfl, ?_⟩
  obtain ⟨hj, hk4⟩ := hr3.join ⟨rfl, rfl, rfl, rfl⟩ hb4 (by rw [hBg]; exact k1) (by rw [hBg]; exact k2) (by rw [hBg]; exact kp) o1 o2 o3 o4
  have hs1 := hmo1.size
  have hs2 := hmo2.size
  have hs3 := hb3.size
  have hs4 := hb4.size
  have hw0 := hbel.size
  -- whose block is it
  have q1 : ∀ b, labP lab vi vo pp b ≠ 0 → b = H.g ∨ (w.heap.size ≤ b ∧ b < w1.heap.size) ∨ (w2.heap.size ≤ b ∧ b < w3.heap.size) := fun b hb => by
    by_cases e : b = vi ∨ b = vo ∨ b = pp
    · exact .inr (.inr (by omega))
    · have hb2 : lab b ≠ 0 := by
        unfold labP at hb
        rw [if_neg (fun h => e (.inl h)), if_neg (fun h => e (.inr (.inl h))), if_neg (fun h => e (.inr (.inr h)))] at hb
        exact hb
      have h1 := hc1.lt b hb2
      by_cases e2 : b < w.heap.size
      · by_cases e3 : b = H.g
        · exact .inl e3
        · exact absurd (hl1 b e2 e3) hb2
      · exact .inr (.inl (by omega))
  have q2 : ∀ b, labQ5 lab2 vi2 vo2 pp2 b ≠ 0 → b = g2 ∨ (w1.heap.size ≤ b ∧ b < w2.heap.size) ∨ (w3.heap.size ≤ b ∧ b < w4.heap.size) := fun b hb => by
    by_cases e : b = vi2 ∨ b = vo2 ∨ b = pp2
    · exact .inr (.inr (by omega))
    · have hb2 : lab2 b ≠ 0 := by
        unfold labQ5 at hb
        rw [if_neg (fun h => e (.inl h)), if_neg (fun h => e (.inr (.inl h))), if_neg (fun h => e (.inr (.inr h)))] at hb
        exact hb
      have h1 := hr2.lt b hb2
      by_cases e2 : b < w1.heap.size
      · by_cases e3 : b = g2
        · exact .inl e3
        · exact absurd (hl2 b e2 e3) hb2
      · exact .inr (.inl (by omega))
  have z1 : ∀ b, ¬ (b = H.g ∨ (w.heap.size ≤ b ∧ b < w1.heap.size) ∨ (w2.heap.size ≤ b ∧ b < w3.heap.size)) → labP lab vi vo pp b = 0 := fun b h => Classical.byContradiction (fun e => h (q1 b e))
  have z2 : ∀ b, ¬ (b = g2 ∨ (w1.heap.size ≤ b ∧ b < w2.heap.size) ∨ (w3.heap.size ≤ b ∧ b < w4.heap.size)) → labQ5 lab2 vi2 vo2 pp2 b = 0 := fun b h => Classical.byContradiction (fun e => h (q2 b e))
  refine ⟨{ H with pc := pc, di := di, dq := dq, pp := pp, vi := vi, vo := vo }, { B with pp := pp2, vi := vi2, vo := vo2 }, newS H (fun _ => 0) H.n, labP lab vi vo pp, labQ5 lab2 vi2 vo2 pp2, ⟨hn3.below hb4, ⟨v1, .slice none 0 0, ⟨hj.lt, hj.di, hj.dq, hj.vi, hj.vo, hj.mem, hj.card, hj.port, hj.r1, hj.r2, hj.l3, hj.l4, hj.l5, hj.l6, hj.l7, hj.l8, hj.l9, hj.wi, hj.wo, hj.oi, hj.oo⟩⟩, fun b => ?_, fun b hb => ⟨z1 b (by omega), z2 b (by omega)⟩, ?_⟩, ?_, rfl, rfl, rfl, rfl, rfl, hBg, rfl, rfl⟩
  · by_cases e : b = H.g ∨ (w.heap.size ≤ b ∧ b < w1.heap.size) ∨ (w2.heap.size ≤ b ∧ b < w3.heap.size)
    · exact .inr (z2 b (by omega))
    · exact .inl (z1 b e)
  · exact (((hmo2.to_below (hmo1.to_below hbel hw0 (fun b e => by rw [e]; exact hg)) (by omega) (fun b e => by rw [e]; exact hg2)).trans (hb3.mono (by omega))).trans (hb4.mono (by omega)))
  · show (offN H.qi H.fi ⟨A0 H.n, cardF H (fun _ => 0), 0, 0⟩ H.n).A.free = []
    rw [offN_free]
    simp [A0]
end Go.Proofs.YtdjghkngiicncaaGreat
