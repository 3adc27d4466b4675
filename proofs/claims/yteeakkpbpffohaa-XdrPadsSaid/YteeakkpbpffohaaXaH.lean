/- What the document's writer writes. -/
import Derived.Test.YteeakkpbpffohaaXaG
namespace Go.Proofs.Yteeakkpbpffohaa
open Go.RowKit Go.Maps
set_option linter.unusedVariables false

set_option maxRecDepth 100000 in
set_option maxHeartbeats 1000000 in
theorem rWU32_any {w : World} {p : Nat} {S : Nat → Prop} {l : List Int} (h : WX w 42 p S l) (x : Int) (hx : IsU x) (hl : l.length ≤ 700000) :
    Calls Try.prog 21 #[.pointer (some ⟨p, 0, none⟩), .int .u32 x] w fun e w' => e = .returned (.tuple #[]) ∧ ∃ S', WX w' 42 p S' (l ++ bytesBe 4 x) ∧ Kp S w S' w' := by
  unfold IsU at hx
  obtain ⟨v, h1, h2, h3⟩ := h.box
  obtain ⟨a0, c0, rfl⟩ := h2.shape
  obtain ⟨k0, hk0⟩ : ∃ k, l.length = k := ⟨_, rfl⟩
  have HC := hid (High_rw (RWc.refl h2) rfl 4 4 x rfl (by omega) hx.1 (by omega) (by omega) (k0 + 4) (by omega))
  rw [hk0] at h1 HC
  have hw64 : IntKind.u64.wrap x = x := IntWalk.u64_in _ (by omega)
  have c1 := cell_of h1 (i := 0) (v := .slice a0 k0 c0) rfl
  have HH := hid h
  have H1 := hid h1
  have H2 := hid h2
  have H3 := hid h3
  have HK := hid hk0
  clear h h1 h2 h3 hk0
  go_enter Try.func21, Try.ntmps21
  go_wp2_with (go_at_call 43
               refine HC.out.mono ?_
               rintro e w2 ⟨a2, c2, rfl, hrc⟩
               have e1 := H1.out
               rw [← HK.out] at e1 hrc
               obtain ⟨g3, S', g4, g5⟩ := HH.out.turn e1 H2.out H3.out hrc (app_isB HH.out.isB (be_isB 4 x))
               rw [HK.out] at g3 g4 g5
               have cB := cell_of g3 (i := 0) (v := .slice a0 k0 c0) rfl
               have fB := froz_of g3 0
               have G4 := hid g4
               have G5 := hid g5
               clear e1 hrc g3 g4 g5)
  go_end0
  exact ⟨rfl, _, G4.out, G5.out⟩
set_option maxRecDepth 100000 in
set_option maxHeartbeats 1000000 in
theorem rWU64_any {w : World} {p : Nat} {S : Nat → Prop} {l : List Int} (h : WX w 42 p S l) (x : Int) (hx : IsW x) (hl : l.length ≤ 700000) :
    Calls Try.prog 22 #[.pointer (some ⟨p, 0, none⟩), .int .u64 x] w fun e w' => e = .returned (.tuple #[]) ∧ ∃ S', WX w' 42 p S' (l ++ bytesBe 8 x) ∧ Kp S w S' w' := by
  unfold IsW at hx
  obtain ⟨v, h1, h2, h3⟩ := h.box
  obtain ⟨a0, c0, rfl⟩ := h2.shape
  obtain ⟨k0, hk0⟩ : ∃ k, l.length = k := ⟨_, rfl⟩
  have HC := hid (High_rw (RWc.refl h2) rfl 8 8 x rfl (by omega) hx.1 (by omega) (by omega) (k0 + 8) (by omega))
  rw [hk0] at h1 HC
  have c1 := cell_of h1 (i := 0) (v := .slice a0 k0 c0) rfl
  have HH := hid h
  have H1 := hid h1
  have H2 := hid h2
  have H3 := hid h3
  have HK := hid hk0
  clear h h1 h2 h3 hk0
  go_enter Try.func22, Try.ntmps22
  go_wp2_with (go_at_call 43
               refine HC.out.mono ?_
               rintro e w2 ⟨a2, c2, rfl, hrc⟩
               have e1 := H1.out
               rw [← HK.out] at e1 hrc
               obtain ⟨g3, S', g4, g5⟩ := HH.out.turn e1 H2.out H3.out hrc (app_isB HH.out.isB (be_isB 8 x))
               rw [HK.out] at g3 g4 g5
               have cB := cell_of g3 (i := 0) (v := .slice a0 k0 c0) rfl
               have fB := froz_of g3 0
               have G4 := hid g4
               have G5 := hid g5
               clear e1 hrc g3 g4 g5)
  go_end0
  exact ⟨rfl, _, G4.out, G5.out⟩
theorem rWBool_any {w : World} {p : Nat} {S : Nat → Prop} {l : List Int} (h : WX w 42 p S l) (b : Bool) (hl : l.length ≤ 700000) :
    Calls Try.prog 23 #[.pointer (some ⟨p, 0, none⟩), .bool b] w fun e w' => e = .returned (.tuple #[]) ∧ ∃ S', WX w' 42 p S' (l ++ bytesBe 4 (tnum b)) ∧ Kp S w S' w' := by
  have HC := hid (rWU32_any h (tnum b) (by have := tnum_bd b; unfold IsU; simp at this; omega) hl)
  clear h
  cases b
  · go_enter Try.func23, Try.ntmps23
    go_wp2_with (go_at_call 21; refine HC.out.mono ?_; rintro e w2 ⟨rfl, hx⟩; have HX := hid hx; clear hx)
    go_end0
    exact ⟨rfl, HX.out⟩
  · go_enter Try.func23, Try.ntmps23
    go_wp2_with (go_at_call 21; refine HC.out.mono ?_; rintro e w2 ⟨rfl, hx⟩; have HX := hid hx; clear hx)
    go_end0
    exact ⟨rfl, HX.out⟩
set_option maxRecDepth 100000 in
set_option maxHeartbeats 1000000 in
theorem rWFixed_any {w : World} {p : Nat} {S : Nat → Prop} {l : List Int} (h : WX w 42 p S l) (n cp : Nat) (a : Option Addr) (b : List Int) (hn : b.length = n) (hb : Bytes w a b) (hl : l.length + n ≤ 700000) :
    Calls Try.prog 26 #[.pointer (some ⟨p, 0, none⟩), .slice a n cp] w fun e w' => e = .returned (.tuple #[]) ∧ ∃ S', WX w' 42 p S' (l ++ pdL b) ∧ Kp S w S' w' := by
  obtain ⟨v, h1, h2, h3⟩ := h.box
  obtain ⟨a0, c0, rfl⟩ := h2.shape
  obtain ⟨k0, hk0⟩ : ∃ k, l.length = k := ⟨_, rfl⟩
  obtain ⟨a4, c4, w2, hap, hrc⟩ := (RWc.refl h2).push rfl b a n cp hn hb (by omega) 22
  obtain ⟨g3, S2, g4, g5⟩ := h.turn h1 h2 h3 hrc (app_isB h.isB hb.isB)
  rw [hk0] at h1 hap hrc g3 g4 g5
  have cA := cell_of h1 (i := 0) (v := .slice a0 k0 c0) rfl
  have cB := cell_of g3 (i := 0) (v := .slice a0 k0 c0) rfl
  have fB := froz_of g3 0
  obtain ⟨W2, hW2⟩ : ∃ W, W = w2.setCell ⟨p, 0, none⟩ (.slice a4 (k0 + n) c4) := ⟨_, rfl⟩
  have hb2 : W2.heap[p]? = some (.cells #[.slice a4 (k0 + n) c4] 42 (0, 0)) := by rw [hW2]; exact setc g3 0 _
  rw [← hW2] at g4 g5
  have cC := cell_of hb2 (i := 0) (v := .slice a4 (k0 + n) c4) rfl
  obtain ⟨v', q1, q2, q3⟩ := g4.box
  obtain rfl : v' = .slice a4 (k0 + n) c4 := by rw [hb2] at q1; simp at q1; exact q1.symm
  have hlen : (l ++ b).length = k0 + n := by rw [List.length_append, hk0, hn]
  have hq4 := pad4_lt n
  have t1 : ((n : Int)).tmod 4 = ((n % 4 : Nat) : Int) := by rw [Int.tmod_eq_emod_of_nonneg (by omega)]; omega
  have t2 : (4 - ((n % 4 : Nat) : Int)).tmod 4 = ((pad4 n : Nat) : Int) := by rw [Int.tmod_eq_emod_of_nonneg (by omega)]; unfold pad4; omega
  obtain ⟨q, hq⟩ : ∃ q, pad4 n = q := ⟨_, rfl⟩
  rw [hq] at hq4 t2
  have HC := hid (fun N hN => Noughts_rw (RWc.refl q2) hlen q N hN (by omega) (k0 + n + q) rfl)
  have HE : Hid (l ++ b ++ List.replicate q 0 = l ++ pdL b) := hid (by rw [pdL, hn, hq, List.append_assoc])
  have HT : Hid ((4 - ((n : Int)).tmod 4).tmod 4 = ((q : Nat) : Int)) := hid (by rw [t1, t2])
  have w1 : IntKind.i64.wrap ((n : Int).tmod 4) = (n : Int).tmod 4 := IntWalk.i64_in _ (by rw [t1]; omega)
  have w2' : IntKind.i64.wrap (4 - (n : Int).tmod 4) = 4 - (n : Int).tmod 4 := IntWalk.i64_in _ (by rw [t1]; omega)
  have w3 : IntKind.i64.wrap ((4 - (n : Int).tmod 4).tmod 4) = (4 - (n : Int).tmod 4).tmod 4 := IntWalk.i64_in _ (by rw [t1, t2]; omega)
  have HTM : Hid ((n : Int) % 4 = ((n % 4 : Nat) : Int)) := hid (by omega)
  have HAP := hid hap
  have HX := hid g4
  have HKP := hid g5
  have HB2 := hid hb2
  have Q2 := hid q2
  have Q3 := hid q3
  have HQ := hid hq
  clear h h1 h2 h3 hap hrc g3 g4 g5 hb hn hl hk0 hb2 q1 q2 q3 hlen t1 t2 hq
  have hW2' := hW2.symm
  clear hW2
  go_enter Try.func26, Try.ntmps26
  go_wp2_with (first
    | (at_builtin; refine wpList_append_run2 rfl (.tmp 8) (.tmp 9) 22 22 rfl (by kernel_rfl) (by kernel_rfl) HAP.out ?_; clear HAP)
    | (go_at_call 45
       (try rw [hW2'])
       refine (HC.out _ ?_).mono ?_
       · first | exact HT.out | (have := HQ.out; unfold pad4 at this; omega)
       rintro e w5 ⟨a5, c5, rfl, hrc⟩
       obtain ⟨g3, S3, g4, g5⟩ := HX.out.turn HB2.out Q2.out Q3.out hrc (app_isB HX.out.isB (fun x hx => by rw [(List.mem_replicate.1 hx).2]; unfold IsB; omega))
       rw [HE.out] at g4
       have cD := cell_of g3 (i := 0) (v := .slice a4 (k0 + n) c4) rfl
       have fD := froz_of g3 0
       have G4 := hid g4
       have G5 := hid (HKP.out.trans g5)
       clear hrc g3 g4 g5))
  go_end0
  exact ⟨rfl, S3, G4.out, G5.out⟩
set_option maxRecDepth 100000 in
set_option maxHeartbeats 1000000 in
theorem rWBytes_any {w : World} {p : Nat} {S : Nat → Prop} {l : List Int} (h : WX w 42 p S l) (n cp : Nat) (a : Option Addr) (b : List Int) (hn : b.length = n) (hb : ∀ W S2, Kp S w S2 W → Bytes W a b) (hn3 : n ≤ 3000) (hl : l.length + n ≤ 600000) :
    Calls Try.prog 24 #[.pointer (some ⟨p, 0, none⟩), .slice a n cp] w fun e w' => e = .returned (.tuple #[]) ∧ ∃ S', WX w' 42 p S' (l ++ fuL b) ∧ Kp S w S' w' := by
  have HC := hid (rWU32_any h n (by unfold IsU; omega) (by omega))
  have HB := hid hb
  have HN := hid hn
  have HL := hid hl
  have hw32 : IntKind.u32.wrap (n : Int) = n := IntWalk.u32_in _ (by omega)
  have HE : Hid (bytesBe 4 n ++ pdL b = fuL b) := hid (by rw [fuL, hn])
  clear h hb hn hl
  go_enter Try.func24, Try.ntmps24
  go_wp2_with (first
    | (go_at_call 21
       refine HC.out.mono ?_
       rintro e w2 ⟨rfl, S2, hx2, hk2⟩
       have HP := hid (rWFixed_any hx2 n cp a b HN.out (HB.out w2 S2 hk2) (by rw [List.length_append, len_be]; have := HL.out; omega))
       have HK := hid hk2
       clear hx2 hk2)
    | (go_at_call 26
       refine HP.out.mono ?_
       rintro e w3 ⟨rfl, S3, hx3, hk3⟩
       have HX := hid hx3
       have HK3 := hid (HK.out.trans hk3)
       clear hx3 hk3))
  go_end0
  exact ⟨rfl, S3, by rw [← HE.out, ← List.append_assoc]; exact HX.out, HK3.out⟩
end Go.Proofs.Yteeakkpbpffohaa
