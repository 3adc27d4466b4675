/- One call of both pairs. -/
import Derived.Test.YtdjghkngiicncaaGreatR5Q
namespace Go.Proofs.YtdjghkngiicncaaGreat
open Go.RowKit

/-- The copy that the law hands in. -/
def Cpy (w : World) (lab lab2 : Nat → Nat) (a : Option Addr) (L : List Int) : Prop := Bytes w a L ∧ ∀ b off, a = some ⟨b, off, none⟩ → b < w.heap.size ∧ lab b = 0 ∧ lab2 b = 0
section
variable {w0 w w' : World} {lab lab' lab2 lab2' : Nat → Nat} {B : Rb} {H : Nh} {S S1 S2 : Ns} {c : Nat} {a : Option Addr} {L : List Int}
theorem Cpy.prog (h : Cpy w lab lab2 a L) (hk : Keep lab w lab' w') : Cpy w' lab' lab2 a L :=
  ⟨h.1.keep_lab hk (fun b off e => (h.2 b off e).2.1), fun b off e => ⟨Nat.lt_of_lt_of_le (h.2 b off e).1 hk.size, by rw [hk.1 b (h.2 b off e).1]; exact (h.2 b off e).2.1, (h.2 b off e).2.2⟩⟩
theorem Cpy.ref (h : Cpy w lab lab2 a L) (hk : Keep lab2 w lab2' w') : Cpy w' lab lab2' a L :=
  ⟨h.1.keep_lab hk (fun b off e => (h.2 b off e).2.2), fun b off e => ⟨Nat.lt_of_lt_of_le (h.2 b off e).1 hk.size, (h.2 b off e).2.1, by rw [hk.1 b (h.2 b off e).1]; exact (h.2 b off e).2.2⟩⟩
theorem Cpy.below (h : Cpy w lab lab2 a L) (hb : Below w.heap.size w w') : Cpy w' lab lab2 a L :=
  ⟨h.1.later hb, fun b off e => ⟨Nat.lt_of_lt_of_le (h.2 b off e).1 hb.size, (h.2 b off e).2⟩⟩
theorem two_send (h : Two w0 w lab lab2 B H S S2 c) (hc : c < 1099511627775) (cap : Nat) (hB : Cpy w lab lab2 a L) :
    Calls Tryz.prog 11 #[.pointer (some ⟨H.pc, 0, none⟩), .slice a L.length cap] w fun e w1 => e = .returned (.int .i64 (sendR H S L)) ∧ ∃ lab', Two w0 w1 lab' lab2 B H (sendS H S L) S2 (c + 1) ∧ Keep lab w lab' w1 := by
  refine (Send_any w lab H S c h.net hc a cap L.length L hB.1 rfl (fun b off e => (hB.2 b off e).2.1)).mono ?_
  rintro e w1 ⟨rfl, lab', hn, hk⟩
  exact ⟨rfl, lab', h.prog hn hk, hk⟩
theorem two_deliver (h : Two w0 w lab lab2 B H S S2 c) (cap : Nat) (hB : Cpy w lab lab2 a L) :
    Calls Tryz.prog 16 #[.pointer (some ⟨H.pp, 0, none⟩), .slice a L.length cap] w fun e w1 => e = .returned (.int .i64 (delR H S L)) ∧ ∃ lab', Two w0 w1 lab' lab2 B H (delS H S L) S2 c ∧ Keep lab w lab' w1 := by
  refine (Deliver_any w lab H S c h.net a cap L.length L hB.1 rfl).mono ?_
  rintro e w1 ⟨rfl, hn, hk⟩
  exact ⟨rfl, lab, h.prog hn hk, hk⟩
set_option maxRecDepth 100000 in
theorem rSend_small (w : World) (p : Nat) (a : Option Addr) (cap len : Nat) (hl : len ≤ maxLen) (h : frB (len : Int) = false) :
    Calls Tryz.prog 12 #[.pointer (some ⟨p, 0, none⟩), .slice a len cap] w fun e w1 => e = .returned (.int .i64 14) ∧ w1 = w := by
  have h1 : ¬ (14 ≤ len ∧ len ≤ 1514) := fun e => by rw [frB_iff.2 e] at h; cases h
  unfold maxLen at hl
  by_cases h2 : (len : Int) < 14
  · go_enter Tryz.func12, Tryz.ntmps12
    go_wp2
    go_ret
    exact ⟨rfl, rfl⟩
  · have h3 : (1514 : Int) < (len : Int) := by omega
    go_enter Tryz.func12, Tryz.ntmps12
    go_wp2
    go_ret
    exact ⟨rfl, rfl⟩
set_option maxRecDepth 100000 in
theorem rDeliver_small (w : World) (p : Nat) (a : Option Addr) (cap len : Nat) (hl : len ≤ maxLen) (h : frB (len : Int) = false) :
    Calls Tryz.prog 17 #[.pointer (some ⟨p, 0, none⟩), .slice a len cap] w fun e w1 => e = .returned (.int .i64 14) ∧ w1 = w := by
  have h1 : ¬ (14 ≤ len ∧ len ≤ 1514) := fun e => by rw [frB_iff.2 e] at h; cases h
  unfold maxLen at hl
  by_cases h2 : (len : Int) < 14
  · go_enter Tryz.func17, Tryz.ntmps17
    go_wp2
    go_ret
    exact ⟨rfl, rfl⟩
  · have h3 : (1514 : Int) < (len : Int) := by omega
    go_enter Tryz.func17, Tryz.ntmps17
    go_wp2
    go_ret
    exact ⟨rfl, rfl⟩
theorem bytes_low {w0 : World} {a : Option Addr} {L : List Int} (hB : Bytes w0 a L) (hp : 0 < L.length) : ∀ b off, a = some ⟨b, off, none⟩ → b < w0.heap.size := fun b off e => by
  obtain ⟨b', off', e', hc⟩ := hB.open_ hp
  rw [e] at e'
  simp at e'
  obtain ⟨rfl, rfl⟩ := e'
  exact World.block_lt_of_cell? w0 _ (hc 0 hp)
theorem two_rsend (h : Two w0 w lab lab2 B H S1 S c) (cap : Nat) (hB : Bytes w0 a L) (hl : L.length ≤ maxLen) :
    Calls Tryz.prog 12 #[.pointer (some ⟨B.pc, 0, none⟩), .slice a L.length cap] w fun e w1 => e = .returned (.int .i64 (sendR H S L)) ∧ ∃ lab2', Two w0 w1 lab lab2' B H S1 (sendS H S L) c ∧ Keep lab2 w lab2' w1 := by
  cases hf : frB (L.length : Int) with
  | false =>
    refine (rSend_small w B.pc a cap L.length hl hf).mono ?_
    rintro e w1 ⟨rfl, rfl⟩
    have e1 : sendR H S L = 14 := by unfold sendR; rw [hf]; rfl
    have e2 : sendS H S L = S := by unfold sendS; rw [hf]; rfl
    rw [e1, e2]
    exact ⟨rfl, lab2, h, Keep.refl _ _⟩
  | true =>
    have h14 := (frB_iff.1 hf).1
    refine (rSend_any w lab2 B H S h.rnet a cap L.length L (hB.later h.bel) rfl hl (fun b off e => (h.low b (bytes_low hB (by omega) b off e)).2)).mono ?_
    rintro e w1 ⟨rfl, lab2', hn, hk⟩
    exact ⟨rfl, lab2', h.ref hn hk, hk⟩
theorem two_rdeliver (h : Two w0 w lab lab2 B H S1 S c) (cap : Nat) (hB : Bytes w0 a L) (hl : L.length ≤ maxLen) :
    Calls Tryz.prog 17 #[.pointer (some ⟨B.pp, 0, none⟩), .slice a L.length cap] w fun e w1 => e = .returned (.int .i64 (delR H S L)) ∧ ∃ lab2', Two w0 w1 lab lab2' B H S1 (delS H S L) c ∧ Keep lab2 w lab2' w1 := by
  cases hf : frB (L.length : Int) with
  | false =>
    refine (rDeliver_small w B.pp a cap L.length hl hf).mono ?_
    rintro e w1 ⟨rfl, rfl⟩
    have e1 : delR H S L = 14 := by unfold delR; rw [hf]; rfl
    have e2 : delS H S L = S := by unfold delS; rw [hf]; rfl
    rw [e1, e2]
    exact ⟨rfl, lab2, h, Keep.refl _ _⟩
  | true =>
    have h14 := (frB_iff.1 hf).1
    refine (rDeliver_any w lab2 B H S h.rnet a cap L.length L (hB.later h.bel) rfl hl (fun b off e => (h.low b (bytes_low hB (by omega) b off e)).2)).mono ?_
    rintro e w1 ⟨rfl, lab2', hn, hk⟩
    exact ⟨rfl, lab2', h.ref hn hk, hk⟩
theorem two_receive (h : Two w0 w lab lab2 B H S S2 c) (hf : S.Ai.free = []) (hc : c < 549755813888) :
    Calls Tryz.prog 14 #[.pointer (some ⟨H.pc, 0, none⟩)] w fun e w1 => ∃ v, e = .returned v ∧ ∃ lab', Two w0 w1 lab' lab2 B H (S.setI (recvAll H S).1) S2 (c + 65537) ∧ Keep lab w lab' w1 ∧ FmRow w1 (Mine5 w w1 lab') v (recvAll H S).2 := by
  refine (Receive_any w lab H S c h.net hf hc).mono ?_
  rintro e w1 ⟨v, rfl, lab', hn, hk, hfr⟩
  exact ⟨v, rfl, lab', h.prog hn hk, hk, hfr⟩
theorem two_rreceive (h : Two w0 w lab lab2 B H S1 S c) (hf : S.Ai.free = []) :
    Calls Tryz.prog 15 #[.pointer (some ⟨B.pc, 0, none⟩)] w fun e w1 => ∃ v, e = .returned v ∧ ∃ lab2', Two w0 w1 lab lab2' B H S1 (S.setI (recvAll H S).1) c ∧ Keep lab2 w lab2' w1 ∧ FmRow w1 (Mine5 w w1 lab2') v (recvAll H S).2 := by
  refine (rReceive_any w lab2 B H S h.rnet hf).mono ?_
  rintro e w1 ⟨v, rfl, lab2', hn, hk, hfr⟩
  exact ⟨v, rfl, lab2', h.ref hn hk, hk, hfr⟩
theorem two_sent (h : Two w0 w lab lab2 B H S S2 c) :
    Calls Tryz.prog 18 #[.pointer (some ⟨H.pp, 0, none⟩)] w fun e w1 => ∃ v, e = .returned v ∧ ∃ lab', Two w0 w1 lab' lab2 B H (S.setO (sentAll H S).1) S2 c ∧ Keep lab w lab' w1 ∧ FmRow w1 (Mine5 w w1 lab') v (sentAll H S).2 := by
  refine (Sent_any w lab H S c h.net).mono ?_
  rintro e w1 ⟨v, rfl, hn, hk, hfr⟩
  exact ⟨v, rfl, lab, h.prog hn hk, hk, hfr⟩
theorem two_rsent (h : Two w0 w lab lab2 B H S1 S c) :
    Calls Tryz.prog 19 #[.pointer (some ⟨B.pp, 0, none⟩)] w fun e w1 => ∃ v, e = .returned v ∧ ∃ lab2', Two w0 w1 lab lab2' B H S1 (S.setO (sentAll H S).1) c ∧ Keep lab2 w lab2' w1 ∧ FmRow w1 (Mine5 w w1 lab2') v (sentAll H S).2 := by
  refine (rSent_any w lab2 B H S h.rnet).mono ?_
  rintro e w1 ⟨v, rfl, lab2', hn, hk, hfr⟩
  exact ⟨v, rfl, lab2', h.ref hn hk, hk, hfr⟩
/-- A row of frames of the program's, while the document's side goes on. -/
theorem FmRow.beside {v : Value} {Ls : List (List Int)} {wb : World} (h : FmRow w (Mine5 wb w lab) v Ls) (hT : Two w0 wb lab' lab2 B H S1 S2 c) (hk2 : Keep lab2 w lab2' w') : FmRow w' (fun b => wb.heap.size ≤ b) v Ls :=
  (h.keep (fun _ hb _ => hk2.block hb.2.1 (hT.new hb.1).2)).weak (fun _ hb _ => hb.1)
/-- A byte is written into both memories. -/
theorem Net.set1 (h : Net w lab H S c) (i : Nat) (x : Int) (hx : IsB x) : Net (w.setCell ⟨H.g, i, none⟩ (.int .u8 x)) lab H { S with f := fun j => if j = i then x else S.f j } c := by
  have hm : Mods (fun b => b = H.g) w (w.setCell ⟨H.g, i, none⟩ (.int .u8 x)) := (Mods.refl _ _).setCell _ _ _ rfl
  have kp : ∀ b, lab b ≠ 0 → lab b ≠ 5 → (w.setCell ⟨H.g, i, none⟩ (.int .u8 x)).heap[b]? = w.heap[b]? := fun b e1 e2 => hm.block b (h.lt b e1) (fun e => e2 (by rw [e]; exact h.l5))
  exact ⟨fun b e => Nat.lt_of_lt_of_le (h.lt b e) hm.size, h.di.mods hm (fun b e1 e2 => by have := h.l5; rw [← e2] at this; omega), h.dq.mods hm (fun b e1 e2 => by have := h.l5; rw [← e2] at this; omega), h.vi.keep (kp _ (by rw [h.l3]; omega) (by rw [h.l3]; omega)), h.vo.keep (kp _ (by rw [h.l4]; omega) (by rw [h.l4]; omega)), h.mem.set1 i x hx, (kp _ (by rw [h.l6]; omega) (by rw [h.l6]; omega)).trans h.card, (kp _ (by rw [h.l7]; omega) (by rw [h.l7]; omega)).trans h.port, h.l3, h.l4, h.l5, h.l6, h.l7, h.oi, h.oo⟩
theorem RNet.set1 (h : RNet w lab2 B H S) (i : Nat) (x : Int) (hx : IsB x) : RNet (w.setCell ⟨B.g, i, none⟩ (.int .u8 x)) lab2 B H { S with f := fun j => if j = i then x else S.f j } := by
  obtain ⟨v1, v2, h⟩ := h
  have hm : Mods (fun b => b = B.g) w (w.setCell ⟨B.g, i, none⟩ (.int .u8 x)) := (Mods.refl _ _).setCell _ _ _ rfl
  have kp : ∀ b, lab2 b ≠ 0 → lab2 b ≠ 5 → (w.setCell ⟨B.g, i, none⟩ (.int .u8 x)).heap[b]? = w.heap[b]? := fun b e1 e2 => hm.block b (h.lt b e1) (fun e => e2 (by rw [e]; exact h.l5))
  exact ⟨v1, v2, fun b e => Nat.lt_of_lt_of_le (h.lt b e) hm.size, h.di.mods hm (fun b e1 e2 => by have := h.l5; rw [← e2] at this; omega), h.dq.mods hm (fun b e1 e2 => by have := h.l5; rw [← e2] at this; omega), h.vi.keep (kp _ (by rw [h.l3]; omega) (by rw [h.l3]; omega)), h.vo.keep (kp _ (by rw [h.l4]; omega) (by rw [h.l4]; omega)), h.mem.set1 i x hx, (kp _ (by rw [h.l6]; omega) (by rw [h.l6]; omega)).trans h.card, (kp _ (by rw [h.l7]; omega) (by rw [h.l7]; omega)).trans h.port, h.r1.keep (fun b hb => kp b (by rw [h.l8 b hb]; omega) (by rw [h.l8 b hb]; omega)), h.r2.keep (fun b hb => kp b (by rw [h.l9 b hb]; omega) (by rw [h.l9 b hb]; omega)), h.l3, h.l4, h.l5, h.l6, h.l7, h.l8, h.l9, h.wi, h.wo, h.oi, h.oo⟩
theorem RNet.l5 (h : RNet w lab2 B H S) : lab2 B.g = 5 := let ⟨_, _, d⟩ := h; d.l5
theorem Two.poke1 (h : Two w0 w lab lab2 B H S S2 c) (i : Nat) (x : Int) (hx : IsB x) : Two w0 (w.setCell ⟨H.g, i, none⟩ (.int .u8 x)) lab lab2 B H { S with f := fun j => if j = i then x else S.f j } S2 c :=
  h.prog (h.net.set1 i x hx) ⟨fun _ _ => rfl, (Mods.refl _ _).setCell _ _ _ (by rw [h.net.l5]; omega)⟩
theorem Two.poke2 (h : Two w0 w lab lab2 B H S1 S c) (i : Nat) (x : Int) (hx : IsB x) : Two w0 (w.setCell ⟨B.g, i, none⟩ (.int .u8 x)) lab lab2 B H S1 { S with f := fun j => if j = i then x else S.f j } c :=
  h.ref (h.rnet.set1 i x hx) ⟨fun _ _ => rfl, (Mods.refl _ _).setCell _ _ _ (by rw [h.rnet.l5]; omega)⟩
theorem wpList_append5 {P : Program} {w : World} {ops : Array Oper} {rest : List Oper} {o : Oper} {a : Act} {Q : Exit → Act → World → Prop} (hgd : o.guard = none) (s x : Operand) (t : TypeId)
    (ho : o.op = .call { callee := .builtin .append, args := #[s, x], argTypes := #[t, t] }) {v y v' : Value} {w' : World} (hs : a.eval s = v) (hx : a.eval x = y)
    (hrun : (Builtin.append_ #[t, t] o.type #[v, y]).run P w = .ok v' w') (h : wpList P ops Q rest (a.put o.dst v') w') : wpList P ops Q (o :: rest) a w := by
  refine wpList_plain hgd fun K hK => ?_
  unfold Oper.wp execOp
  simp only [ho, resolve, invoke, builtin, Sem.run_bind, Sem.run_pure, Result.andThen_ok, List.map_toArray, List.map_cons, List.map_nil, hs, hx, hrun]
  exact hK _ _ h
/-- What the law's last test asks. -/
theorem Two.ends (h : Two w0 w lab lab2 B H S S c) {cap cap' : Nat} {a' : Option Addr} (hB : Cpy w lab lab2 a' L) (hO : Bytes w0 a L) (cp : Nat) : (∀ j : Nat, (convert 25 9 (.slice (some ⟨H.g, 0, none⟩) H.N cap)).run Tryz.prog (w.drewN j) = .ok (.string (strOfNums (at_ S.f 0 H.N))) (w.drewN j)) ∧ (∀ j : Nat, (convert 25 9 (.slice (some ⟨B.g, 0, none⟩) H.N cap')).run Tryz.prog (w.drewN j) = .ok (.string (strOfNums (at_ S.f 0 H.N))) (w.drewN j)) ∧
    (∀ j cq : Nat, (convert 25 9 (.slice a' L.length cq)).run Tryz.prog (w.drewN j) = .ok (.string (strOfNums L)) (w.drewN j)) ∧ ∀ j : Nat, (convert 25 9 (.slice a L.length cp)).run Tryz.prog (w.drewN j) = .ok (.string (strOfNums L)) (w.drewN j) :=
  ⟨fun j => Mem.conv (h.net.mem.below (below_drewN (Below.refl _ _) j)) (Nat.le_refl _), fun j => Mem.conv (h.rnet.mem.below (below_drewN (Below.refl _ _) j)) (Nat.le_refl _), fun j cq => Bytes.conv (hB.1.drewN j) cq, fun j => Bytes.conv ((hO.later h.bel).drewN j) cp⟩
end
end Go.Proofs.YtdjghkngiicncaaGreat
