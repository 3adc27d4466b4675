/- NetU, NetV in one text. -/
import Derived.Test.YtdjghkngiicncaaGreatNetT
/- vnet: what the laws make. -/
namespace Go.Proofs.YtdjghkngiicncaaGreat
open Go.RowKit

def nwi (at_ n : Int) : Int := if at_.tmod n < 0 then at_.tmod n + n else at_.tmod n
theorem nwi_bd (at_ n : Int) (h : 0 < n) : 0 ≤ nwi at_ n ∧ nwi at_ n < n := by
  unfold nwi
  have h1 := Int.tmod_lt_of_pos at_ h
  have h2 : -n < at_.tmod n := by
    rcases Int.lt_or_le at_ 0 with h3 | h3
    · have h4 := Int.neg_tmod (-at_) n
      rw [Int.neg_neg] at h4
      rw [h4]
      have := Int.tmod_lt_of_pos (-at_) h
      omega
    · have := Int.tmod_nonneg n h3
      omega
  split <;> omega
theorem nwrap_wi {x n : Int} (h0 : 0 < n) (hn : n < 1099511627776) (h : x.tmod n < 0) : IntKind.i64.wrap (x.tmod n + n) = x.tmod n + n := by
  have h1 := nwi_bd x n h0
  unfold nwi at h1
  rw [if_pos h] at h1
  exact IntWalk.i64_in _ (by omega)
theorem Mem.blk {w : World} {b N : Nat} {f : Nat → Int} (h : Mem w b N f) : Blk w b (at_ f 0 N) := by
  unfold Blk
  rw [at_len]
  exact h.congr (fun i hi => by rw [at_get f 0 N i hi, Nat.zero_add])
theorem at_isB {f : Nat → Int} {N : Nat} (h : ∀ i, i < N → IsB (f i)) : ∀ x ∈ at_ f 0 N, IsB x := fun x hx => by
  simp only [at_, List.mem_map, List.mem_range] at hx
  obtain ⟨i, hi, rfl⟩ := hx
  exact h _ (by omega)
theorem u8_isB (x : Int) : IsB (IntKind.u8.wrap x) := by rw [IntKind.wrap_u8]; exact ⟨by omega, by omega⟩
/-- Where a card of n places lies that begins memory of its own. -/
def nh (g n : Nat) (h : pow2 n = true) : Nh := ⟨g, 0, n, 2 * (8 + 26 * n) + 2 * n * 1528, 0, 0, 0, 0, 0, 0, h, by omega, by have := pow2_bd h; omega⟩
theorem areaI_nat {n : Nat} (h : pow2 n = true) : areaI n = ((2 * (8 + 26 * n) + 2 * n * 1528 : Nat) : Int) := by
  unfold areaI
  rw [if_pos h]
  omega
theorem Keep.cell {lab lab' : Nat → Nat} {w w' : World} (h : Keep lab w lab' w') {b o : Nat} {v : Value} (hc : w.cell? ⟨b, o, none⟩ = some v) (h0 : lab b = 0) : w'.cell? ⟨b, o, none⟩ = some v := h.2.cell hc (fun e => e h0)
theorem Keep.blk {lab lab' : Nat → Nat} {w w' : World} (h : Keep lab w lab' w') {b : Nat} {L : List Int} (hb : Blk w b L) (h0 : lab b = 0) : Blk w' b L := Mem.keep hb (h.block hb.lt h0)
theorem Keep.lab {lab lab' : Nat → Nat} {w w' : World} (h : Keep lab w lab' w') {b : Nat} (hb : b < w.heap.size) (h0 : lab b = 0) : lab' b = 0 := (h.1 b hb).trans h0
/-- NewCard and NewPort over new memory. -/
theorem mk_card (w0 w : World) (g n N : Nat) (hp : pow2 n = true) (hN : 2 * (8 + 26 * n) + 2 * n * 1528 = N) (hm : Mem w g N (fun _ => 0)) (hb : Below w0.heap.size w0 w) (hg : w0.heap.size ≤ g) :
    Calls Tryz.prog 7 #[.slice (some ⟨g, 0, none⟩) N N, .int .i64 0, .int .i64 n] w fun e w1 => ∃ pc, e = .returned (.tuple #[.pointer (some ⟨pc, 0, none⟩), .int .i64 0]) ∧
      Calls Tryz.prog 9 #[.slice (some ⟨g, 0, none⟩) N N, .int .i64 0, .int .i64 n] w1 fun e w2 => ∃ pp lab H, e = .returned (.tuple #[.pointer (some ⟨pp, 0, none⟩), .int .i64 0]) ∧ H.n = n ∧ H.pc = pc ∧ H.pp = pp ∧ H.g = g ∧ H.N = N ∧ Play w0 w2 lab H n (List.range n) [] [] [] ∧ (∀ b, b < w.heap.size → b ≠ g → lab b = 0) ∧ Mods (fun b => b = g) w w2 := by
  subst hN
  have hgl := hm.lt
  refine (NewCard_ok w (nh g n hp) (fun _ => 0) hm).mono ?_
  rintro e w1 ⟨pc, di, dq, rfl, hmo, lab, hc, hl⟩
  refine ⟨pc, rfl, ?_⟩
  refine (NewPort_ok w1 { nh g n hp with pc := pc, di := di, dq := dq } (Nat.lt_of_lt_of_le hgl hmo.size)).mono ?_
  rintro e w2 ⟨pp, vi, vo, rfl, hb2, hv3, hv4, hp3, h31, h32, h33, h34⟩
  refine ⟨pp, labP lab vi vo pp, _, rfl, rfl, rfl, rfl, rfl, rfl, play_start (w0 := w0) (H := { nh g n hp with pc := pc, di := di, dq := dq }) (f := fun _ => 0) hc (fun i hi => ⟨by omega, by omega⟩) hb2 hv3 hv4 hp3 h31 h32 h33 h34 (fun b h => hl b (Nat.lt_of_lt_of_le h hb.size) (by show b ≠ g; omega)) (hmo.to_below hb hb.size (fun b e => by show w0.heap.size ≤ b; rw [e]; exact hg)), fun b h1 h2 => ?_, hmo.below hb2⟩
  rw [labP_old (Nat.lt_of_lt_of_le h1 hmo.size) h31 h32 h33]
  exact hl b h1 h2
end Go.Proofs.YtdjghkngiicncaaGreat

/- vnet: the chapter's example. -/
namespace Go.Proofs.YtdjghkngiicncaaGreat
open Go.RowKit

def z60 : List Int := List.replicate 60 0
theorem z60_good : Good z60 := ⟨by decide, by decide, fun x hx => by rw [(List.mem_replicate.1 hx).2]; exact ⟨by omega, by omega⟩⟩
theorem blk_made (w : World) (n : Nat) : Blk (w.alloc (.cells (madeCells #[.int .u8 0] n) 5)) w.heap.size (List.replicate n 0) := by
  unfold Blk
  rw [List.length_replicate]
  exact (nmem_made w n).congr (fun i hi => by simp [List.getD, hi])
set_option maxRecDepth 100000 in
set_option maxHeartbeats 4000000 in
theorem known_any (w : World) : Calls Tryz.prog 4 #[] w fun e w' => e = .returned (.bool true) ∧ Below w.heap.size w w' := by
  have HAR : Hid (Calls Tryz.prog 5 #[.int .i64 2] w fun e w' => e = .returned (.int .i64 6232) ∧ w' = w) := hid (by have h := Area_any w 2; rw [show areaI 2 = 6232 from by decide] at h; exact h)
  have hmk := run_make_row' (P := Tryz.prog) 25 5 (.int .u8 0) 1 Tryz.underlying25 info5 rfl .i64 .i64 6232 (by omega) (by omega)
  obtain ⟨V0, hV0⟩ : ∃ V0, V0 = w.alloc (.cells (madeCells #[Value.int .u8 0] 6232) 5) := ⟨_, rfl⟩
  have hmk0 := hmk w
  have hm0 := nmem_made w 6232
  have HB0 : Hid (Below w.heap.size w V0) := hid (by rw [hV0]; exact (Below.refl _ w).alloc (Nat.le_refl _) _)
  rw [← hV0] at hmk0 hm0
  clear hmk hV0
  rw [show ((6232 : Nat) : Int) = 6232 from rfl] at hmk0
  have HMC := hid (mk_card w V0 w.heap.size 2 6232 (by decide) (by decide) hm0 HB0.out (Nat.le_refl _))
  rw [show ((2 : Nat) : Int) = 2 from rfl] at HMC
  clear hm0
  go_enter Tryz.func4, Tryz.ntmps4
  go_wp2_with fail
  refine HAR.out.mono ?_
  rintro e w1 ⟨rfl, hw1⟩
  rw [hw1]
  clear hw1 w1
  go_wp2_with fail
  refine HMC.out.mono ?_
  rintro e w2 ⟨pc, rfl, hc2⟩
  have HC2 := hid hc2
  clear hc2
  go_wp2_with fail
  refine HC2.out.mono ?_
  rintro e w3 ⟨pp, lab, H, rfl, hHn, rfl, rfl, _, _, hpl, _, _⟩
  have HPL := hid hpl
  have HHN := hid hHn
  have hmk60 := run_make_row' (P := Tryz.prog) 25 5 (.int .u8 0) 1 Tryz.underlying25 info5 rfl .i64 .i64 60 (by omega) (by omega)
  rw [show ((60 : Nat) : Int) = 60 from rfl] at hmk60
  have hmk1 := hmk60 w3
  obtain ⟨V3, hV3⟩ : ∃ V3, V3 = w3.alloc (.cells (madeCells #[Value.int .u8 0] 60) 5) := ⟨_, rfl⟩
  have hbk := blk_made w3 60
  rw [← hV3] at hmk1 hbk
  have HB3 : Hid (Below w3.heap.size w3 V3) := hid (by rw [hV3]; exact (Below.refl _ w3).alloc (Nat.le_refl _) _)
  have HBK : Hid (Blk V3 w3.heap.size z60) := hid hbk
  have HP3 := hid (hpl.below HB3.out)
  have HL0 : Hid (lab w3.heap.size = 0) := hid (hpl.new (Nat.le_refl _))
  rw [show List.range 2 = [0, 1] from rfl] at HP3
  clear hpl hHn hmk60 hV3 hbk
  go_wp2_with fail
  refine (HP3.out.deliver z60_good (some ⟨w3.heap.size, 0, none⟩) 60 60 HBK.out.bytes rfl).mono ?_
  rintro e w4 ⟨rfl, hp4, hk4⟩
  have HP4 := hid hp4
  have HBK4 := hid (hk4.blk HBK.out HL0.out)
  clear hp4 hk4
  go_wp2_with fail
  refine (HP4.out.deliver z60_good (some ⟨w3.heap.size, 0, none⟩) 60 60 HBK4.out.bytes rfl).mono ?_
  rintro e w5 ⟨rfl, hp5, hk5⟩
  have HP5 := hid hp5
  have HBK5 := hid (hk5.blk HBK4.out HL0.out)
  clear hp5 hk5
  go_wp2_with fail
  refine (HP5.out.deliver_full z60_good (some ⟨w3.heap.size, 0, none⟩) 60 60 HBK5.out.bytes rfl).mono ?_
  rintro e w6 ⟨rfl, hp6, hk6⟩
  have HP6 := hid hp6
  have HBK6 := hid (hk6.blk HBK5.out HL0.out)
  have HLT6 : Hid (w3.heap.size < w6.heap.size) := hid HBK6.out.lt
  clear hp6 hk6
  go_wp2_with fail
  refine (HP6.out.receive (by omega)).mono ?_
  rintro e w7 ⟨v, rfl, lab7, hp7, hk7, hf7⟩
  have HP7 := hid hp7
  have HBK7 := hid (hk7.blk HBK6.out HL0.out)
  have HL7 : Hid (lab7 w3.heap.size = 0) := hid (hk7.lab HLT6.out HL0.out)
  obtain ⟨va, vc, hv, hfa⟩ := hf7.at_
  subst hv
  obtain ⟨g7, b7, c7, hva, k7, hb7, hg70, hb70⟩ := hfa 0 (by simp)
  have HG7 := hid hg70
  have HB70 := hid hb70
  subst hva
  have HB7 := hid hb7
  clear hp7 hk7 hf7 hfa hb7 hg70 hb70
  simp only [List.nil_append, List.cons_append, List.map_cons, List.map_nil, List.getD_cons_zero] at k7 HB7 HP7
  rw [show z60.length = 60 from rfl] at k7
  have cv1 : (convert 25 9 (.slice (some ⟨b7, 0, none⟩) 60 c7)).run Tryz.prog w7.drew = .ok (.string (strOfNums z60)) w7.drew := (HB7.out.below ((Below.refl _ w7).drew)).conv
  have cv2 : (convert 25 9 (.slice (some ⟨w3.heap.size, 0, none⟩) 60 60)).run Tryz.prog w7.drew = .ok (.string (strOfNums z60)) w7.drew := (HBK7.out.below ((Below.refl _ w7).drew)).conv
  have HDL := hid ((HP7.out.below ((Below.refl _ w7).drew)).deliver z60_good (some ⟨w3.heap.size, 0, none⟩) 60 60 (HBK7.out.below ((Below.refl _ w7).drew)).bytes rfl)
  have HCC : Hid (∀ (W : World) b c, Blk W b z60 → (convert 25 9 (.slice (some ⟨b, 0, none⟩) 60 c)).run Tryz.prog W = .ok (.string (strOfNums z60)) W) := hid (fun W b c h => h.conv)
  have HK7 : Hid (w7.drew.cell? ⟨g7, 0, none⟩ = some (.slice (some ⟨b7, 0, none⟩) 60 c7)) := hid k7
  generalize hstr : strOfNums z60 = str at *
  clear hstr
  go_wp2_with fail
  go_region_held3 (fun w' => w'.cell? ⟨g7, 0, none⟩ = some (.slice (some ⟨b7, 0, none⟩) 60 c7) ∧ (convert 25 9 (.slice (some ⟨b7, 0, none⟩) 60 c7)).run Tryz.prog w' = .ok (.string str) w' ∧ (convert 25 9 (.slice (some ⟨w3.heap.size, 0, none⟩) 60 60)).run Tryz.prog w' = .ok (.string str) w') ((first | exact ⟨HK7.out, cv1, cv2⟩ | exact HS8.out))
    ((go_at_call 16; refine HDL.out.mono ?_; rintro e w8 ⟨rfl, hp8, hk8⟩; have HP8 := hid hp8; have HS8 := hid (And.intro (hk8.cell HK7.out HG7.out.2.2) (And.intro (HCC.out w8 b7 c7 (hk8.blk (HB7.out.below ((Below.refl _ w7).drew)) HB70.out.2.2)) (HCC.out w8 w3.heap.size 60 (hk8.blk (HBK7.out.below ((Below.refl _ w7).drew)) HL7.out)))); clear hp8 hk8))
  go_wp2
  go_ret
  exact ⟨rfl, HP8.out.bel⟩
end Go.Proofs.YtdjghkngiicncaaGreat
