/- VirtqOrder: what is offered is taken in order, whole; what is given back is used in order. -/
import Derived.Test.YtjnhcbompgmknaaOrderA
namespace Go.Proofs.Ytjnhcbompgmknaa
open Go.RowKit

def hl (P : List (List Nat × List Bf)) : List Int := P.map fun p => ((p.1.getD 0 0 : Nat) : Int)
def pl (P : List (List Nat × List Bf)) : List Int := P.flatMap fun p => [(p.2.getD 0 default).addr, (p.2.length : Int)]
theorem hl_len (P : List (List Nat × List Bf)) : (hl P).length = P.length := by simp [hl]
theorem pl_len (P : List (List Nat × List Bf)) : (pl P).length = 2 * P.length := by
  induction P with
  | nil => rfl
  | cons p P ih => simp only [pl, List.flatMap_cons, List.length_append, List.length_cons, List.length_nil] at *; omega
def mkB (a j : Nat) : List Bf := (List.range j).map fun t => ⟨((a + t : Nat) : Int), (t : Int), t % 2 == 1⟩
theorem mkB_len (a j : Nat) : (mkB a j).length = j := by simp [mkB]
theorem mkB_snoc (a j : Nat) : mkB a (j + 1) = mkB a j ++ [⟨((a + j : Nat) : Int), (j : Int), j % 2 == 1⟩] := by simp [mkB, List.range_succ]
theorem mkB_ok (a j : Nat) (ha : a ≤ 1048576) (hj : j ≤ 65536) : (∀ b ∈ mkB a j, okB b) ∧ ∀ b ∈ mkB a j, b.addr ≤ 4611686018427387904 := by
  refine ⟨fun b hb => ?_, fun b hb => ?_⟩
  · simp only [mkB, List.mem_map, List.mem_range] at hb
    obtain ⟨t, ht, rfl⟩ := hb
    unfold okB
    simp only
    omega
  · simp only [mkB, List.mem_map, List.mem_range] at hb
    obtain ⟨t, ht, rfl⟩ := hb
    simp only
    omega
theorem mkB_zero (a j : Nat) (h : 0 < j) : ((mkB a j).getD 0 default).addr = (a : Int) := by
  simp [mkB, List.getD, h]
theorem flies_none {A : Abs} {L : List Int} (h : Flies A L) (hf : A.fl = []) : L = [] := by
  match L, h with
  | [], _ => rfl
  | x :: r, h => have := (h.2 x).1 (by simp); rw [hf] at this; simp [look] at this

theorem behind_if (b off len cap lo : Nat) : Value.slice (if cap = lo then some ⟨b, off, none⟩ else some ⟨b, off + lo, none⟩) (len - lo) (cap - lo) = behind b off len cap lo := by
  unfold behind
  split <;> rfl
theorem Run.count {B : Nat} {w0 w : World} {K : Nat → Prop} {pd pv : Nat} {q : Qu} {A : Abs} {c c' : Nat} {f : Nat → Int} {o u : Nat} (h : Run B w0 w K pd pv q A c f o u) (hc : c ≤ c') : Run B w0 w K pd pv q A c' f o u := by
  obtain ⟨al, r⟩ := h
  obtain ⟨vf, bm, M, d⟩ := r.drv
  exact ⟨al, ⟨vf, bm, M, { d with mp := d.mp.mono hc }⟩, r.own, r.npv, r.bpv, r.bg, r.dev, r.mem, r.bel, r.size, r.kp⟩
/-- 'append' onto a law's own row, beside another one, both sides held. -/
theorem wpList_app_run {B : Nat} {w0 : World} {pd pv : Nat} {q : Qu} {A : Abs} {cn : Nat} {f : Nat → Int} {oo uu : Nat} {ops : Array Oper} {rest : List Oper} {o : Oper} {a : Act} {Q : Exit → Act → World → Prop} (hgd : o.guard = none) (s x : Operand)
    (ho : o.op = .call { callee := .builtin .append, args := #[s, x], argTypes := #[37, 37] }) (v ov : Value) (l ol : List Int) (hs : a.eval s = v) (w6 : World) (cells : Array Value) (news : List Int) (m c : Nat) (hx : a.eval x = .slice (some ⟨w6.heap.size, 0, none⟩) m c)
    (hq : QRow w6 v l) (hoq : QRow w6 ov ol) (hne : ∀ b, blk v = some b → blk ov ≠ some b) (hbb : ∀ b, blk v = some b ∨ blk ov = some b → B ≤ b) (hr : Run B w0 w6 (fun b => blk v = some b ∨ blk ov = some b) pd pv q A cn f oo uu)
    (hm : news.length = m) (hm0 : 0 < m) (hcs : cells.size = m) (hcells : ∀ i, i < m → cells[i]? = some (.int .i64 (news.getD i 0))) (hl : l.length + m ≤ 65536)
    (k : ∀ (v' : Value) (w' : World), Hid (QRow w' v' (l ++ news)) → Hid (QRow w' ov ol) → Hid (∀ b, blk v' = some b → blk ov ≠ some b) → Hid (∀ b, blk v' = some b ∨ blk ov = some b → B ≤ b) → Hid (Run B w0 w' (fun b => blk v' = some b ∨ blk ov = some b) pd pv q A cn f oo uu) → wpList Try.prog ops Q rest (a.put o.dst v') w') :
    wpList Try.prog ops Q (o :: rest) a (w6.alloc (.cells cells 3)) := by
  have hba : ∀ b, b < w6.heap.size → (w6.alloc (.cells cells 3)).heap[b]? = w6.heap[b]? := fun b hb => Below.heap_alloc _ _ _ hb
  have hsz : (w6.alloc (.cells cells 3)).heap.size = w6.heap.size + 1 := by simp
  refine wpList_append_q hgd s x ho v l hs (hq.keep (fun b hb => hba b (hq.lt hb))) w6.heap.size m c news hx hm hm0 (fun i hi => ?_) hl ?_
  · rw [new_cell w6 _ _ _ i (by omega)]
    have := hcells i hi
    rw [Array.getElem?_eq_getElem (by omega)] at this
    exact this
  · intro v' w' h1 h2 h3
    have hs2 := h2.out.size
    have hbs := hr.bel.2
    refine k v' w' h1 (hid ((hoq.keep (fun b hb => hba b (hoq.lt hb))).keep (fun b hb => h2.out.block b (by have := hoq.lt hb; omega) (fun e => hne b e hb)))) (hid fun b hb e => ?_) (hid fun b hb => ?_) (hid ?_)
    · rcases h3.out b hb with e' | e'
      · exact hne b e' e
      · have := hoq.lt e; omega
    · rcases hb with hb | hb
      · rcases h3.out b hb with e' | e'
        · exact hbb b (.inl e')
        · omega
      · exact hbb b (.inr hb)
    · refine (hr.below ((Below.refl _ _).alloc (Nat.le_refl _) (.cells cells 3))).foreign (h2.out.weak (fun b e => .inl (.inl e))) hbb (fun b hb => ?_)
      rcases hb with hb | hb
      · exact ⟨(h3.out b hb).imp .inl id, h1.out.lt hb⟩
      · exact ⟨.inl (.inr hb), by have := hoq.lt hb; omega⟩

set_option maxRecDepth 100000 in
set_option maxHeartbeats 40000000 in
theorem order_any (w : World) (a : Option Addr) (cap : Nat) (l : List Int) (s r : Int) (hI : Ints w a l) (hl0 : l.length ≤ maxLen) :
    Calls Try.prog 4 #[.int .i64 s, .int .i64 r, .slice a l.length cap] w fun e w' => e = .returned (.bool true) ∧ Below w.heap.size w w' := by
  unfold maxLen at hl0
  have hk := wi_bd s 6 (by omega)
  have hR := wi_bd r 400 (by omega)
  generalize hkk : wi s 6 = k at *
  generalize hrr : wi r 400 = R at *
  have HK := hid hkk
  have HR := hid hrr
  clear hkk hrr
  obtain ⟨n, hsh, hp, n1, n2⟩ := sh_pow k hk.1 (by omega)
  have HP := hid hp
  have HI := hid hI
  have hmk := make_mem n (by omega)
  obtain ⟨len, hlen⟩ : ∃ len, l.length = len := ⟨_, rfl⟩
  have HL := hid hlen
  rw [hlen] at hl0 ⊢
  clear hp hI hlen
  go_enter Try.func4, Try.ntmps4
  go_wp2_with (go_at_call 7; refine (known_any w).mono ?_; rintro e w1 ⟨rfl, hb1⟩; have HB1 := hid hb1; clear hb1)
  refine (within_any s 6 (by omega) (by omega) w1).mono ?_
  rintro e w2 ⟨rfl, hw2⟩
  rw [hw2, HK.out]
  clear hw2 w2
  go_wp2_with fail
  refine (within_any r 400 (by omega) (by omega) w1).mono ?_
  rintro e w2 ⟨rfl, hw2⟩
  rw [hw2, HR.out]
  clear hw2 w2
  go_wp2_with (first
    | (go_at_call 8; refine (Size_yes w1 n HP.out).mono ?_; rintro e w2 ⟨rfl, hw2⟩; rw [hw2]; clear hw2 w2)
    | (go_at_call 18; refine (made0 w.heap.size w w1 n HP.out n1 (by omega) HB1.out HB1.out.size).mono ?_; rintro e w3 ⟨pd, rfl, hc3⟩; have HC3 := hid hc3; clear hc3)
    | (go_at_call 19; refine HC3.out.mono ?_; rintro e w4 ⟨pv, rfl, q, f, hqn, hrun, hsane⟩; have HRUN := hid hrun; have HSANE := hid hsane; have HQN := hid hqn; clear hqn hrun hsane))
  go_loopw [13, 14, 15, 16] (fun vh vp xa xi wr => ∃ (i at_ : Nat) (A : Abs) (f : Nat → Int) (o : Nat) (P : List (List Nat × List Bf)), (i : Int) ≤ R ∧ xi = .int .i64 i ∧ xa = .int .i64 at_ ∧ at_ ≤ 33 * i ∧ QRow wr vh (hl P) ∧ QRow wr vp (pl P) ∧
      (∀ b, blk vh = some b ∨ blk vp = some b → w.heap.size ≤ b) ∧ (∀ b, blk vh = some b → blk vp ≠ some b) ∧ Run w.heap.size w wr (fun b => blk vh = some b ∨ blk vp = some b) pd pv q A i f o A.uses ∧ Sane q f A o P) (fun _ _ _ xi _ => (R - RowKit.intOf xi).toNat)
  case atStart => exact ⟨0, 0, A0 q.n, f, 0, [], by omega, rfl, rfl, by omega, QRow.nil _, QRow.nil _, fun b h => by simp [blk] at h, fun b h => by simp [blk] at h, HRUN.out.less (fun b h => by simp [blk] at h), HSANE.out⟩
  case round =>
    obtain ⟨i, at_, A, f, o, P, hi, rfl, rfl, hat, hq1, hq2, hbb, hne, hrun, hsane⟩ := hrel
    have HQ1 := hid hq1
    have HQ2 := hid hq2
    have HBB := hid hbb
    have HNE := hid hne
    have HRUN := hid hrun
    have HSA := hid hsane
    obtain ⟨ha, hc, hvh⟩ := hq1.shape
    obtain ⟨pa, pc, hvp⟩ := hq2.shape
    rw [hl_len] at hvh
    rw [pl_len] at hvp
    subst hvh hvp
    have hPl : P.length ≤ 32 := by have := hsane.len; rw [HQN.out] at this; omega
    generalize hpn : P.length = pn at *
    have HPN := hid hpn
    clear hq1 hq2 hbb hne hrun hsane HC3 hmk hsh hpn
    by_cases hlt : (i : Int) < R
    · have ei : IntKind.i64.wrap ((i : Int) + 1) = (i : Int) + 1 := IntWalk.i64_in _ (by omega)
      obtain ⟨kk, hkk1, hkk2, hka, hkb⟩ : ∃ kk : Nat, 1 ≤ kk ∧ kk ≤ n ∧ (len = 0 → kk = 1) ∧ (0 < len → 1 + wi (l.getD (i % len) 0) n = (kk : Int)) := by
        by_cases h : len = 0
        · exact ⟨1, by omega, by omega, fun _ => rfl, fun h' => by omega⟩
        · have := wi_bd (l.getD (i % len) 0) n (by omega)
          exact ⟨(1 + wi (l.getD (i % len) 0) n).toNat, by omega, by omega, fun h' => absurd h' h, fun _ => by omega⟩
      have HKA := hid hka
      have HKB := hid hkb
      clear hka hkb
      by_cases hm : len = 0
      · have hm0 : ¬ ((0 : Int) < (len : Int)) := by omega
        have hk1 := HKA.out hm
        clear hm
        subst hk1
        go_wp2_with fail
        obtain ⟨W, hW⟩ : ∃ W, W = wr := ⟨_, rfl⟩
        rw [← hW] at HQ1 HQ2 HRUN ⊢
        clear hW
        go_loopw [18, 19] (fun v18 x19 wx => ∃ j : Nat, j ≤ 1 ∧ x19 = .int .i64 j ∧ wx.ownsRow W.heap.size 51 3 v18 (mkB at_ j).length (cellsB (mkB at_ j)) ∧ Below W.heap.size W wx) (fun _ x19 _ => 1 - (RowKit.intOf x19).toNat)
        case atStart => exact ⟨0, Nat.zero_le _, rfl, ⟨rfl, .inl ⟨rfl, rfl⟩⟩, Below.refl _ _⟩
        case round =>
          obtain ⟨j, hj, rfl, ho18, hb18⟩ := hrel
          have HO18 := hid ho18
          have HB18 := hid hb18
          obtain ⟨la, lc, hv18⟩ := owns_slice ho18
          rw [mkB_len] at hv18
          subst hv18
          have hs18 := hb18.size
          clear ho18 hb18
          by_cases hjl : j < 1
          · have hji : (j : Int) < (1 : Int) := by omega
            have ej : IntKind.i64.wrap ((j : Int) + 1) = (j : Int) + 1 := IntWalk.i64_in _ (by omega)
            have eaj : IntKind.i64.wrap ((at_ : Int) + j) = ((at_ + j : Nat) : Int) := by rw [IntWalk.i64_in _ (by omega)]; omega
            have hsn := hid (mkB_snoc at_ j)
            by_cases hpar : j % 2 = 1
            · exact absurd hpar (by omega)
            · have hmod : Int.tmod (j : Int) 2 = 0 := by show Int.tmod (j : Int) ((2 : Nat) : Int) = 0; rw [← Int.ofNat_tmod]; omega
              have hpb : (j % 2 == 1) = false := by simpa using hpar
              rw [hpb] at hsn
              go_wp2_with (at_builtin; refine wpList_append_buf rfl (.tmp 90) (.tmp 99) rfl W.heap.size wr _ _ false _ (mkB at_ j) rfl (owns_below HO18.out ((Below.refl _ _).alloc (Nat.le_refl _) _)) _ rfl (by rw [mkB_len]; omega) hs18 ?_; intro v6 w6 hown6 hgrow6)
              go_roundw
              case rel =>
                refine ⟨j + 1, by omega, by go_num, by rw [hsn.out]; exact hown6.out, ?_⟩
                exact (HB18.out.alloc hs18 _).grown hgrow6.out (by simp; omega) (fun b hb => (owns_lt HO18.out hb).2)
              case measure => simp only [RowKit.intOf]; omega
          · have hji : ¬ ((j : Int) < (1 : Int)) := by omega
            obtain rfl : j = 1 := by omega
            obtain ⟨lb, lc', hv, _, hlb, hlb2, hcells⟩ := ownsB_open HO18.out (by rw [mkB_len]; omega)
            rw [mkB_len] at hv hcells
            simp only [Value.slice.injEq, true_and] at hv
            obtain ⟨hla, hlc⟩ := hv
            subst hla hlc
            have hgW := HRUN.out.mem.lt
            have hbufs : Bufs wr (some ⟨lb, 0, none⟩) (mkB at_ 1) q.g := fun t ht => by
              rw [mkB_len] at ht
              obtain ⟨y1, y2, y3⟩ := hcells t ht
              exact ⟨lb, 0, rfl, by omega, by rw [Nat.zero_add]; exact y1, by rw [Nat.zero_add]; exact y2, by rw [Nat.zero_add]; exact y3⟩
            obtain ⟨hok1, hok2⟩ := mkB_ok at_ 1 (by omega) (by omega)
            have HBUF := hid hbufs
            have HOK := hid (And.intro hok1 hok2)
            have hfree := hid ((HRUN.out.below HB18.out).free)
            have hfn := HSA.out.len
            rw [HQN.out] at hfn
            generalize hfl : A.free.length = fl at *
            have HFL := hid hfl
            clear hcells hbufs hok1 hok2 hfl
            by_cases hfull : fl < 1
            · have hfi : (fl : Int) < (1 : Int) := by omega
              have hfb : decide ((fl : Int) < (1 : Int)) = true := decide_eq_true hfi
              have hcon := hid (HRUN.out.add_full wr HB18.out (some ⟨lb, 0, none⟩) 1 lc (mkB at_ 1) (mkB_len _ _) HBUF.out HOK.out.1 (by omega) (by omega) (by rw [HFL.out]; exact hfull))
              go_wp2_with (go_at_call 12; refine hfree.out.mono ?_; rintro e w5 ⟨rfl, hw5⟩; rw [hw5]; clear hw5 w5)
              refine hcon.out.mono ?_
              rintro e w6 ⟨rfl, hr6, hk6⟩
              have HQ1a := hid (HQ1.out.keep (w' := w6) (fun b hb => hk6 b (.inl hb)))
              have HQ2a := hid (HQ2.out.keep (w' := w6) (fun b hb => hk6 b (.inr hb)))
              have HR6 := hid hr6
              clear hr6 hk6 hfree hcon
              go_wp2
              go_loopw [13, 14] (fun vh vp wx => ∃ (A : Abs) (f : Nat → Int) (o : Nat) (P : List (List Nat × List Bf)), QRow wx vh (hl P) ∧ QRow wx vp (pl P) ∧
                  (∀ b, blk vh = some b ∨ blk vp = some b → w.heap.size ≤ b) ∧ (∀ b, blk vh = some b → blk vp ≠ some b) ∧ Run w.heap.size w wx (fun b => blk vh = some b ∨ blk vp = some b) pd pv q A i f o A.uses ∧ Sane q f A o P) (fun vh _ _ => lenOf vh)
              case atStart => exact ⟨A, f, o, P, HQ1a.out, HQ2a.out, HBB.out, HNE.out, HR6.out, HSA.out⟩
              case round =>
                clear HQ1 HQ2 HBB HNE HRUN HSA HQ1a HQ2a HR6 HO18 HB18 HBUF HOK HFL HPN hs18 hfull hfi hfb hfn hlb hlb2 hPl hgW
                obtain ⟨A, f, o, P, hq1, hq2, hbb, hne, hrun, hsane⟩ := hrel
                have HBB := hid hbb
                have HNE := hid hne
                have HRUN := hid hrun
                have HSA := hid hsane
                clear hbb hne hrun
                cases P with
                | nil =>
                  obtain ⟨ha2, hc2, hvh⟩ := hq1.shape
                  rw [show (hl []).length = 0 from rfl] at hvh
                  subst hvh
                  have HQ1 := hid hq1
                  have HQ2 := hid hq2
                  have hu : rd f (q.pu + 2) 2 = A.uses := hsane.iu
                  have ho : rd f (q.po + 2) 2 = o := hsane.none_o
                  have hfr : A.free.length = n := hsane.all_free.trans HQN.out
                  have hfl0 : A.fl = [] := hsane.fl
                  have HU := hid hu
                  have HOO := hid ho
                  have HFR := hid hfr
                  have HFL0 := hid hfl0
                  clear hq1 hq2 hsane hu ho hfr hfl0
                  go_wp2_with (first
                    | (go_at_call 21; refine (HRUN.out.take_none HOO.out).mono ?_; rintro e w7 ⟨rfl, hr7, hk7⟩; have HR7 := hid hr7; have HK7 := hid hk7; clear hr7 hk7)
                    | (go_at_call 23; refine (HR7.out.used_none HU.out).mono ?_; rintro e w8 ⟨rfl, hr8, hk8⟩; have HR8 := hid hr8; have HK8 := hid hk8; clear hr8 hk8)
                    | (go_at_call 12; refine HR8.out.free.mono ?_; rintro e w9 ⟨rfl, hw9⟩; rw [hw9, HFR.out]; clear hw9 w9)
                    | (go_at_call 15; obtain ⟨al9, r9⟩ := HR8.out; refine (Flying_any w8 pd q A i al9 r9.drv (by omega)).mono ?_; rintro e w9 ⟨v9, L9, rfl, hf9, ho9, hb9⟩; obtain rfl := flies_none hf9 HFL0.out; obtain ⟨a9, c9, rfl⟩ := owns_slice ho9; have HB9 := hid hb9; clear hf9 ho9 hb9))
                  go_roundw
                  case rel => exact ⟨i + 1, at_, A, f, o, [], by omega, by go_num, rfl, by omega, ((HQ1.out.keep (fun b hb => HK7.out b (.inl hb))).keep (fun b hb => HK8.out b (.inl hb))).keep (fun b hb => HB9.out.block b (HR8.out.lt (.inl hb))), ((HQ2.out.keep (fun b hb => HK7.out b (.inr hb))).keep (fun b hb => HK8.out b (.inr hb))).keep (fun b hb => HB9.out.block b (HR8.out.lt (.inr hb))), HBB.out, HNE.out, (HR8.out.below HB9.out).count (by omega), HSA.out⟩
                  case measure => simp only [RowKit.intOf]; omega
                | cons p P' =>
                  obtain ⟨bh, oh, ch, hvh, hch, hceh⟩ := hq1.open_ (by simp [hl])
                  obtain ⟨bp, op, cp, hvp, hcp, hcep⟩ := hq2.open_ (by rw [pl_len]; simp)
                  have hh0 : (hl (p :: P')).getD 0 0 = ((p.1.getD 0 0 : Nat) : Int) := by simp [hl]
                  have hp0 : (pl (p :: P')).getD 0 0 = (p.2.getD 0 default).addr := by simp [pl]
                  have hp1 : (pl (p :: P')).getD 1 0 = (p.2.length : Int) := by simp [pl]
                  have c1 := hceh 0 (by simp [hl])
                  have c2 := hcep 0 (by rw [pl_len]; simp)
                  have c3 := hcep 1 (by rw [pl_len]; simp; omega)
                  rw [hh0, Nat.add_zero] at c1
                  rw [hp0, Nat.add_zero] at c2
                  rw [hp1] at c3
                  rw [hl_len] at hvh hch
                  rw [pl_len] at hvp hcp
                  subst hvh hvp
                  obtain ⟨a1, a2, a3, a4, a5, a6, a7⟩ := hsane.head
                  obtain ⟨b1, hsan2⟩ := hsane.pop (p.2.length : Int) (by omega) (by have := q.geo.n2; omega)
                  obtain ⟨g1, g2, g3⟩ := given_rd f q A.uses ((p.1.getD 0 0 : Nat) : Int) (p.2.length : Int) (by omega) (by have := q.geo.n2; omega) (by omega) (by have := q.geo.n2; omega)
                  have hgb : giveB q.n ((p.1.getD 0 0 : Nat) : Int) (p.2.length : Int) = true := by simp only [giveB, lenB, Bool.and_eq_true, decide_eq_true_eq]; have := q.geo.n2; omega
                  have hus := HRUN.out.wf.u
                  have ht1 := QRow.tail hq1 (by rw [hl_len]) 1 (by simp [hl])
                  have ht2 := QRow.tail hq2 (by rw [pl_len]) 2 (by rw [pl_len]; simp; omega)
                  rw [show (hl (p :: P')).drop 1 = hl P' from by simp [hl]] at ht1
                  rw [show (pl (p :: P')).drop 2 = pl P' from by simp [pl]] at ht2
                  have hcon := hid (HRUN.out.take_some a1 _ a2 _ a4)
                  have r1 := cutQ_run bh oh (p :: P').length ch 1 (by simp)
                  have r2 := cutQ_run bp op (2 * (p :: P').length) cp 2 (by simp; omega)
                  have HT1 := hid ht1
                  have HT2 := hid ht2
                  have HPOP := hid (And.intro b1 hsan2)
                  have HGV := hid (And.intro g1 (And.intro g2 g3))
                  have HGB := hid hgb
                  have HUS := hid hus
                  have ha5 := a5
                  have HAD := hid (rfl : (p.2.getD 0 default).addr = (p.2.getD 0 default).addr)
                  clear hq1 hq2 hceh hcep hh0 hp0 hp1 hsane a1 a2 a3 a4 a6 a7 b1 hsan2 g1 g2 g3 hgb hus ht1 ht2
                  have hPn : 0 < (p :: P').length := by simp
                  have hpn32 : (p :: P').length ≤ 32 := by have := HSA.out.len; rw [HQN.out] at this; omega
                  have hlo : lenOf (behind bh oh (p :: P').length ch 1) < (p :: P').length := by simp [behind, lenOf]
                  have HLO := hid hlo
                  clear hlo
                  generalize (p :: P').length = pn at *
                  have hp2a : 2 ≤ 2 * pn := by omega
                  generalize 2 * pn = pn2 at *
                  have hp2g : 0 < pn2 := by omega
                  have hp2b : (1 : Int) < (pn2 : Int) := by omega
                  have hp2c : (0 : Int) < (pn2 : Int) := by omega
                  have hp2d : (0 : Int) < (pn : Int) := by omega
                  have hp2e : (2 : Int) ≤ (pn2 : Int) := by omega
                  have hp2f : (1 : Int) ≤ (pn : Int) := by omega
                  have HBE := hid (And.intro (behind_if bh oh pn ch 1) (behind_if bp op pn2 cp 2))
                  clear r1 r2
                  generalize behind bh oh pn ch 1 = vh2 at *
                  generalize behind bp op pn2 cp 2 = vp2 at *
                  go_wp2_with fail
                  refine hcon.out.mono ?_
                  rintro e w7 ⟨v7, rfl, ho7, hr7, hk7⟩
                  obtain ⟨vb, vc, hv7, hvc7, _, _, hcells⟩ := ownsB_open ho7 ha5
                  subst hv7
                  have c4 := (hcells 0 ha5).1
                  rw [Nat.zero_mul] at c4
                  replace c1 := cell_kept hk7 (b := bh) (.inl rfl) c1
                  replace c2 := cell_kept hk7 (b := bp) (.inr rfl) c2
                  replace c3 := cell_kept hk7 (b := bp) (.inr rfl) c3
                  have hgc := hid ((hr7.below ((Below.refl _ _).drew)).give ((p.1.getD 0 0 : Nat) : Int) (p.2.length : Int) HGB.out)
                  have HK7 := hid hk7
                  clear hcells ho7 hr7 hk7 hcon
                  generalize hpad : (p.2.getD 0 default).addr = pad at *
                  generalize hpl9 : p.2.length = pln at *
                  generalize hhd9 : p.1.getD 0 0 = hd9 at *
                  have HP9 := hid (And.intro hpad (And.intro hpl9 hhd9))
                  have hpl0 : (0 : Int) < (pln : Int) := by omega
                  clear hpad hpl9 hhd9
                  go_wp2_with fail
                  go_region_held3 (fun w' => w'.cell? ⟨bh, oh, none⟩ = some (.int .i64 (hd9 : Nat)) ∧ w'.cell? ⟨bp, op, none⟩ = some (.int .i64 pad) ∧ w'.cell? ⟨bp, op + 1, none⟩ = some (.int .i64 (pln : Nat)) ∧ w'.cell? ⟨vb, 0, none⟩ = some (.int .i64 pad)) ((first | exact ⟨c1, c2, c3, c4⟩ | exact HS8.out))
                    ((go_at_call 22; refine hgc.out.mono ?_; rintro e w8 ⟨rfl, hr8, hk8⟩; have HS8 := hid (And.intro (cell_kept (w := w7.drew) hk8 (b := bh) (.inl (.inl rfl)) c1) (And.intro (cell_kept (w := w7.drew) hk8 (b := bp) (.inl (.inr rfl)) c2) (And.intro (cell_kept (w := w7.drew) hk8 (b := bp) (.inl (.inr rfl)) c3) (cell_kept (w := w7.drew) hk8 (b := vb) (.inr rfl) c4)))); have HR8 := hid hr8; have HK8 := hid hk8; clear hr8 hk8))
                  obtain ⟨k1, k2, k3, k4⟩ := HS8.out
                  have hc9 := hid (HR8.out.used_some (by rw [HGV.out.1]; have := HUS.out; omega) (hd9 : Nat) (pln : Nat) HGV.out.2.1 HGV.out.2.2 p.1 HPOP.out.1)
                  clear c1 c2 c3 c4 k2 k4 HS8 hgc
                  go_wp2_with fail
                  refine hc9.out.mono ?_
                  rintro e w9 ⟨rfl, hr9, hk9⟩
                  replace k1 := cell_kept hk9 (b := bh) (.inl (.inl rfl)) k1
                  replace k3 := cell_kept hk9 (b := bp) (.inl (.inr rfl)) k3
                  have HR9 := hid hr9
                  have HK9 := hid hk9
                  clear hr9 hk9 hc9
                  go_wp2
                  go_quiet (fail)
                  go_wp2
                  go_roundw
                  case rel =>
                    have kp : ∀ b, b = bh ∨ b = bp → (w9.heap[b]? = wr.heap[b]?) := fun b hb => by
                      have hb' : blk (Value.slice (some ⟨bh, oh, none⟩) pn ch) = some b ∨ blk (Value.slice (some ⟨bp, op, none⟩) pn2 cp) = some b := by
                        rcases hb with rfl | rfl
                        · exact .inl rfl
                        · exact .inr rfl
                      exact ((HK9.out b (.inl hb')).trans (HK8.out b (.inl hb'))).trans (HK7.out b hb')
                    rw [HBE.out.1, HBE.out.2]
                    refine ⟨UseA A (hd9 : Nat) p.1, _, (o + 1) % 65536, P', HT1.out.1.keep (fun b hb => kp b (.inl (by rw [HT1.out.2] at hb; simpa using hb.symm))), HT2.out.1.keep (fun b hb => kp b (.inr (by rw [HT2.out.2] at hb; simpa using hb.symm))), ?_, ?_, (HR9.out.below (below_drewN (Below.refl _ _) _)).less ?_, HPOP.out.2⟩
                    · intro b hb
                      rw [HT1.out.2, HT2.out.2] at hb
                      exact HBB.out b hb
                    · intro b hb
                      rw [HT1.out.2] at hb
                      rw [HT2.out.2]
                      exact HNE.out b hb
                    · intro b hb
                      rw [HT1.out.2, HT2.out.2] at hb
                      exact .inl hb
                  case measure =>
                    rw [HBE.out.1]
                    exact HLO.out
            · have hfi : ¬ ((fl : Int) < (1 : Int)) := by omega
              have hfb : decide ((fl : Int) < (1 : Int)) = false := decide_eq_false hfi
              have hcon := hid (HRUN.out.add wr HB18.out (some ⟨lb, 0, none⟩) 1 lc (mkB at_ 1) (mkB_len _ _) HBUF.out (fun b off e => by simp at e; omega) HOK.out.1 (by omega) (by rw [HFL.out]; omega) (by omega))
              have hsn := hid (HSA.out.add (mkB at_ 1) (by rw [mkB_len]; omega) (by rw [mkB_len, HFL.out]; omega) HOK.out.1 HOK.out.2)
              have hhl : hl (P ++ [(A.free.take 1, mkB at_ 1)]) = hl P ++ [((A.free.getD 0 0 : Nat) : Int)] := by simp [hl]
              have hpl : pl (P ++ [(A.free.take 1, mkB at_ 1)]) = pl P ++ [(at_ : Int), 1] := by simp only [pl, List.flatMap_append, List.flatMap_cons, List.flatMap_nil, List.append_nil, mkB_len, mkB_zero at_ 1 (by omega)]; first | rfl | simp
              have HHP := hid (And.intro hhl hpl)
              have hfa : (AddA A 1).free.length = fl - 1 := by rw [← HFL.out]; simp [AddA]
              have HFA := hid hfa
              generalize A.free.getD 0 0 = hd0 at *
              clear hhl hpl hfa
              have ea : IntKind.i64.wrap ((at_ : Int) + 1) = ((at_ + 1 : Nat) : Int) := by rw [IntWalk.i64_in _ (by omega)]; omega
              have ef : IntKind.i64.wrap ((fl : Int) - 1) = ((fl - 1 : Nat) : Int) := by rw [IntWalk.i64_in _ (by omega)]; omega
              have hvc1 : ∀ t, t < 1 → (#[Value.int .i64 (hd0 : Nat)])[t]? = some (.int .i64 ([((hd0 : Nat) : Int)].getD t 0)) := fun t ht => by
                obtain rfl : t = 0 := by omega
                rfl
              have hvc2 : ∀ t, t < 2 → (#[Value.int .i64 (at_ : Nat), Value.int .i64 1])[t]? = some (.int .i64 ([((at_ : Nat) : Int), 1].getD t 0)) := fun t ht => by
                rcases (show t = 0 ∨ t = 1 by omega) with rfl | rfl <;> rfl
              have HVC := hid (And.intro hvc1 hvc2)
              clear hvc1 hvc2
              go_wp2_with (go_at_call 12; refine hfree.out.mono ?_; rintro e w5 ⟨rfl, hw5⟩; rw [hw5]; clear hw5 w5)
              refine hcon.out.mono ?_
              rintro e w6 ⟨rfl, hr6, hk6⟩
              have HQ1a := hid (HQ1.out.keep (w' := w6) (fun b hb => hk6 b (.inl hb)))
              have HQ2a := hid (HQ2.out.keep (w' := w6) (fun b hb => hk6 b (.inr hb)))
              have HR6 := hid hr6
              clear hr6 hk6 hfree
              go_wp2_with (first
                | (at_builtin; refine wpList_app_run rfl (.tmp 117) (.tmp 119) rfl _ _ (hl P) (pl P) rfl w6 _ [((hd0 : Nat) : Int)] 1 1 rfl HQ1a.out HQ2a.out HNE.out HBB.out HR6.out rfl (by omega) rfl HVC.out.1 (by rw [hl_len, HPN.out]; omega) ?_; intro vh7 w7 q7 q7o n7 b7 r7)
                | (at_builtin; refine wpList_app_run rfl (.tmp 121) (.tmp 124) rfl _ vh7 (pl P) (hl P ++ [((hd0 : Nat) : Int)]) rfl w7 _ [((at_ : Nat) : Int), 1] 2 2 rfl q7o.out q7.out (fun b hb e => n7.out b e hb) (fun b hb => b7.out b hb.symm) (r7.out.less (fun b hb => hb.symm)) rfl (by omega) rfl HVC.out.2 (by rw [pl_len, HPN.out]; omega) ?_; intro vp8 w8 q8 q8o n8 b8 r8)
                | (go_at_call 12; refine r8.out.free.mono ?_; rintro e w9 ⟨rfl, hw9⟩; rw [hw9, HFA.out]; clear hw9 w9))
              go_roundw
              case rel =>
                refine ⟨i + 1, at_ + 1, AddA A 1, _, o, P ++ [(A.free.take 1, mkB at_ 1)], by omega, by go_num, rfl, by omega, ?_, ?_, fun b hb => b8.out b hb.symm, fun b hb e => n8.out b e hb, r8.out.less (fun b hb => hb.symm), ?_⟩
                · rw [HHP.out.1]; exact q8o.out
                · rw [HHP.out.2]; exact q8.out
                · have := hsn.out
                  rw [mkB_len] at this
                  exact this
              case measure => simp only [RowKit.intOf]; omega
      · have hm0 : (0 : Int) < (len : Int) := by omega
        have hk1 := HKB.out (by omega)
        have hml := Nat.mod_lt i (show 0 < len by omega)
        have hrb := HRUN.out.bel.1
        have HI1 := hid (HI.out.below (hrb.mono (Nat.le_refl _)))
        obtain ⟨mb, mo, hma, hmc, _⟩ := HI1.out (i % len) (by rw [HL.out]; exact hml)
        subst hma
        have hmn : ¬ ((len : Int) = 0) := by omega
        have hmod9 : Int.tmod (i : Int) (len : Int) = ((i % len : Nat) : Int) := (Int.ofNat_tmod i len).symm
        have hwk := wi_bd (l.getD (i % len) 0) n (by omega)
        have hwc := hid (within_any (l.getD (i % len) 0) n (by omega) (by omega) wr)
        generalize l.getD (i % len) 0 = y at *
        generalize hmi : i % len = mi at *
        have HMI := hid hmi
        generalize hwy : wi y n = wy at *
        have HWY := hid hwy
        clear hmi hwy
        have hmi1 : (mi : Int) < (len : Int) := by omega
        have hmi0 : (0 : Int) ≤ (mi : Int) := by omega
        have hk1' : IntKind.i64.wrap (1 + wy) = (kk : Int) := by rw [← hk1]; exact IntWalk.i64_in _ (by omega)
        clear hk1 hm
        go_wp2_with fail
        refine hwc.out.mono ?_
        rintro e w5 ⟨rfl, hw5⟩
        rw [hw5]
        clear hw5 w5
        go_wp2_with fail
        obtain ⟨W, hW⟩ : ∃ W, W = wr := ⟨_, rfl⟩
        rw [← hW] at HQ1 HQ2 HRUN ⊢
        clear hW
        go_loopw [18, 19] (fun v18 x19 wx => ∃ j : Nat, j ≤ kk ∧ x19 = .int .i64 j ∧ wx.ownsRow W.heap.size 51 3 v18 (mkB at_ j).length (cellsB (mkB at_ j)) ∧ Below W.heap.size W wx) (fun _ x19 _ => kk - (RowKit.intOf x19).toNat)
        case atStart => exact ⟨0, Nat.zero_le _, rfl, ⟨rfl, .inl ⟨rfl, rfl⟩⟩, Below.refl _ _⟩
        case round =>
          obtain ⟨j, hj, rfl, ho18, hb18⟩ := hrel
          have HO18 := hid ho18
          have HB18 := hid hb18
          obtain ⟨la, lc, hv18⟩ := owns_slice ho18
          rw [mkB_len] at hv18
          subst hv18
          have hs18 := hb18.size
          clear ho18 hb18
          by_cases hjl : j < kk
          · have hji : (j : Int) < (kk : Int) := by omega
            have ej : IntKind.i64.wrap ((j : Int) + 1) = (j : Int) + 1 := IntWalk.i64_in _ (by omega)
            have eaj : IntKind.i64.wrap ((at_ : Int) + j) = ((at_ + j : Nat) : Int) := by rw [IntWalk.i64_in _ (by omega)]; omega
            have hsn := hid (mkB_snoc at_ j)
            by_cases hpar : j % 2 = 1
            · have hmod : Int.tmod (j : Int) 2 = 1 := by show Int.tmod (j : Int) ((2 : Nat) : Int) = 1; rw [← Int.ofNat_tmod]; omega
              have hpb : (j % 2 == 1) = true := by simpa using hpar
              rw [hpb] at hsn
              go_wp2_with (at_builtin; refine wpList_append_buf rfl (.tmp 90) (.tmp 99) rfl W.heap.size wr _ _ true _ (mkB at_ j) rfl (owns_below HO18.out ((Below.refl _ _).alloc (Nat.le_refl _) _)) _ rfl (by rw [mkB_len]; omega) hs18 ?_; intro v6 w6 hown6 hgrow6)
              go_roundw
              case rel =>
                refine ⟨j + 1, by omega, by go_num, by rw [hsn.out]; exact hown6.out, ?_⟩
                exact (HB18.out.alloc hs18 _).grown hgrow6.out (by simp; omega) (fun b hb => (owns_lt HO18.out hb).2)
              case measure => simp only [RowKit.intOf]; omega
            · have hmod : Int.tmod (j : Int) 2 = 0 := by show Int.tmod (j : Int) ((2 : Nat) : Int) = 0; rw [← Int.ofNat_tmod]; omega
              have hpb : (j % 2 == 1) = false := by simpa using hpar
              rw [hpb] at hsn
              go_wp2_with (at_builtin; refine wpList_append_buf rfl (.tmp 90) (.tmp 99) rfl W.heap.size wr _ _ false _ (mkB at_ j) rfl (owns_below HO18.out ((Below.refl _ _).alloc (Nat.le_refl _) _)) _ rfl (by rw [mkB_len]; omega) hs18 ?_; intro v6 w6 hown6 hgrow6)
              go_roundw
              case rel =>
                refine ⟨j + 1, by omega, by go_num, by rw [hsn.out]; exact hown6.out, ?_⟩
                exact (HB18.out.alloc hs18 _).grown hgrow6.out (by simp; omega) (fun b hb => (owns_lt HO18.out hb).2)
              case measure => simp only [RowKit.intOf]; omega
          · have hji : ¬ ((j : Int) < (kk : Int)) := by omega
            obtain rfl : kk = j := by omega
            obtain ⟨lb, lc', hv, _, hlb, hlb2, hcells⟩ := ownsB_open HO18.out (by rw [mkB_len]; omega)
            rw [mkB_len] at hv hcells
            simp only [Value.slice.injEq, true_and] at hv
            obtain ⟨hla, hlc⟩ := hv
            subst hla hlc
            have hgW := HRUN.out.mem.lt
            have hbufs : Bufs wr (some ⟨lb, 0, none⟩) (mkB at_ kk) q.g := fun t ht => by
              rw [mkB_len] at ht
              obtain ⟨y1, y2, y3⟩ := hcells t ht
              exact ⟨lb, 0, rfl, by omega, by rw [Nat.zero_add]; exact y1, by rw [Nat.zero_add]; exact y2, by rw [Nat.zero_add]; exact y3⟩
            obtain ⟨hok1, hok2⟩ := mkB_ok at_ kk (by omega) (by omega)
            have HBUF := hid hbufs
            have HOK := hid (And.intro hok1 hok2)
            have hfree := hid ((HRUN.out.below HB18.out).free)
            have hfn := HSA.out.len
            rw [HQN.out] at hfn
            generalize hfl : A.free.length = fl at *
            have HFL := hid hfl
            clear hcells hbufs hok1 hok2 hfl
            by_cases hfull : fl < kk
            · have hfi : (fl : Int) < (kk : Int) := by omega
              have hfb : decide ((fl : Int) < (kk : Int)) = true := decide_eq_true hfi
              have hcon := hid (HRUN.out.add_full wr HB18.out (some ⟨lb, 0, none⟩) kk lc (mkB at_ kk) (mkB_len _ _) HBUF.out HOK.out.1 (by omega) (by omega) (by rw [HFL.out]; exact hfull))
              go_wp2_with (go_at_call 12; refine hfree.out.mono ?_; rintro e w5 ⟨rfl, hw5⟩; rw [hw5]; clear hw5 w5)
              refine hcon.out.mono ?_
              rintro e w6 ⟨rfl, hr6, hk6⟩
              have HQ1a := hid (HQ1.out.keep (w' := w6) (fun b hb => hk6 b (.inl hb)))
              have HQ2a := hid (HQ2.out.keep (w' := w6) (fun b hb => hk6 b (.inr hb)))
              have HR6 := hid hr6
              clear hr6 hk6 hfree hcon
              go_wp2
              go_loopw [13, 14] (fun vh vp wx => ∃ (A : Abs) (f : Nat → Int) (o : Nat) (P : List (List Nat × List Bf)), QRow wx vh (hl P) ∧ QRow wx vp (pl P) ∧
                  (∀ b, blk vh = some b ∨ blk vp = some b → w.heap.size ≤ b) ∧ (∀ b, blk vh = some b → blk vp ≠ some b) ∧ Run w.heap.size w wx (fun b => blk vh = some b ∨ blk vp = some b) pd pv q A i f o A.uses ∧ Sane q f A o P) (fun vh _ _ => lenOf vh)
              case atStart => exact ⟨A, f, o, P, HQ1a.out, HQ2a.out, HBB.out, HNE.out, HR6.out, HSA.out⟩
              case round =>
                clear HQ1 HQ2 HBB HNE HRUN HSA HQ1a HQ2a HR6 HO18 HB18 HBUF HOK HFL HPN hs18 hfull hfi hfb hfn hlb hlb2 hPl hgW
                obtain ⟨A, f, o, P, hq1, hq2, hbb, hne, hrun, hsane⟩ := hrel
                have HBB := hid hbb
                have HNE := hid hne
                have HRUN := hid hrun
                have HSA := hid hsane
                clear hbb hne hrun
                cases P with
                | nil =>
                  obtain ⟨ha2, hc2, hvh⟩ := hq1.shape
                  rw [show (hl []).length = 0 from rfl] at hvh
                  subst hvh
                  have HQ1 := hid hq1
                  have HQ2 := hid hq2
                  have hu : rd f (q.pu + 2) 2 = A.uses := hsane.iu
                  have ho : rd f (q.po + 2) 2 = o := hsane.none_o
                  have hfr : A.free.length = n := hsane.all_free.trans HQN.out
                  have hfl0 : A.fl = [] := hsane.fl
                  have HU := hid hu
                  have HOO := hid ho
                  have HFR := hid hfr
                  have HFL0 := hid hfl0
                  clear hq1 hq2 hsane hu ho hfr hfl0
                  go_wp2_with (first
                    | (go_at_call 21; refine (HRUN.out.take_none HOO.out).mono ?_; rintro e w7 ⟨rfl, hr7, hk7⟩; have HR7 := hid hr7; have HK7 := hid hk7; clear hr7 hk7)
                    | (go_at_call 23; refine (HR7.out.used_none HU.out).mono ?_; rintro e w8 ⟨rfl, hr8, hk8⟩; have HR8 := hid hr8; have HK8 := hid hk8; clear hr8 hk8)
                    | (go_at_call 12; refine HR8.out.free.mono ?_; rintro e w9 ⟨rfl, hw9⟩; rw [hw9, HFR.out]; clear hw9 w9)
                    | (go_at_call 15; obtain ⟨al9, r9⟩ := HR8.out; refine (Flying_any w8 pd q A i al9 r9.drv (by omega)).mono ?_; rintro e w9 ⟨v9, L9, rfl, hf9, ho9, hb9⟩; obtain rfl := flies_none hf9 HFL0.out; obtain ⟨a9, c9, rfl⟩ := owns_slice ho9; have HB9 := hid hb9; clear hf9 ho9 hb9))
                  go_roundw
                  case rel => exact ⟨i + 1, at_, A, f, o, [], by omega, by go_num, rfl, by omega, ((HQ1.out.keep (fun b hb => HK7.out b (.inl hb))).keep (fun b hb => HK8.out b (.inl hb))).keep (fun b hb => HB9.out.block b (HR8.out.lt (.inl hb))), ((HQ2.out.keep (fun b hb => HK7.out b (.inr hb))).keep (fun b hb => HK8.out b (.inr hb))).keep (fun b hb => HB9.out.block b (HR8.out.lt (.inr hb))), HBB.out, HNE.out, (HR8.out.below HB9.out).count (by omega), HSA.out⟩
                  case measure => simp only [RowKit.intOf]; omega
                | cons p P' =>
                  obtain ⟨bh, oh, ch, hvh, hch, hceh⟩ := hq1.open_ (by simp [hl])
                  obtain ⟨bp, op, cp, hvp, hcp, hcep⟩ := hq2.open_ (by rw [pl_len]; simp)
                  have hh0 : (hl (p :: P')).getD 0 0 = ((p.1.getD 0 0 : Nat) : Int) := by simp [hl]
                  have hp0 : (pl (p :: P')).getD 0 0 = (p.2.getD 0 default).addr := by simp [pl]
                  have hp1 : (pl (p :: P')).getD 1 0 = (p.2.length : Int) := by simp [pl]
                  have c1 := hceh 0 (by simp [hl])
                  have c2 := hcep 0 (by rw [pl_len]; simp)
                  have c3 := hcep 1 (by rw [pl_len]; simp; omega)
                  rw [hh0, Nat.add_zero] at c1
                  rw [hp0, Nat.add_zero] at c2
                  rw [hp1] at c3
                  rw [hl_len] at hvh hch
                  rw [pl_len] at hvp hcp
                  subst hvh hvp
                  obtain ⟨a1, a2, a3, a4, a5, a6, a7⟩ := hsane.head
                  obtain ⟨b1, hsan2⟩ := hsane.pop (p.2.length : Int) (by omega) (by have := q.geo.n2; omega)
                  obtain ⟨g1, g2, g3⟩ := given_rd f q A.uses ((p.1.getD 0 0 : Nat) : Int) (p.2.length : Int) (by omega) (by have := q.geo.n2; omega) (by omega) (by have := q.geo.n2; omega)
                  have hgb : giveB q.n ((p.1.getD 0 0 : Nat) : Int) (p.2.length : Int) = true := by simp only [giveB, lenB, Bool.and_eq_true, decide_eq_true_eq]; have := q.geo.n2; omega
                  have hus := HRUN.out.wf.u
                  have ht1 := QRow.tail hq1 (by rw [hl_len]) 1 (by simp [hl])
                  have ht2 := QRow.tail hq2 (by rw [pl_len]) 2 (by rw [pl_len]; simp; omega)
                  rw [show (hl (p :: P')).drop 1 = hl P' from by simp [hl]] at ht1
                  rw [show (pl (p :: P')).drop 2 = pl P' from by simp [pl]] at ht2
                  have hcon := hid (HRUN.out.take_some a1 _ a2 _ a4)
                  have r1 := cutQ_run bh oh (p :: P').length ch 1 (by simp)
                  have r2 := cutQ_run bp op (2 * (p :: P').length) cp 2 (by simp; omega)
                  have HT1 := hid ht1
                  have HT2 := hid ht2
                  have HPOP := hid (And.intro b1 hsan2)
                  have HGV := hid (And.intro g1 (And.intro g2 g3))
                  have HGB := hid hgb
                  have HUS := hid hus
                  have ha5 := a5
                  have HAD := hid (rfl : (p.2.getD 0 default).addr = (p.2.getD 0 default).addr)
                  clear hq1 hq2 hceh hcep hh0 hp0 hp1 hsane a1 a2 a3 a4 a6 a7 b1 hsan2 g1 g2 g3 hgb hus ht1 ht2
                  have hPn : 0 < (p :: P').length := by simp
                  have hpn32 : (p :: P').length ≤ 32 := by have := HSA.out.len; rw [HQN.out] at this; omega
                  have hlo : lenOf (behind bh oh (p :: P').length ch 1) < (p :: P').length := by simp [behind, lenOf]
                  have HLO := hid hlo
                  clear hlo
                  generalize (p :: P').length = pn at *
                  have hp2a : 2 ≤ 2 * pn := by omega
                  generalize 2 * pn = pn2 at *
                  have hp2g : 0 < pn2 := by omega
                  have hp2b : (1 : Int) < (pn2 : Int) := by omega
                  have hp2c : (0 : Int) < (pn2 : Int) := by omega
                  have hp2d : (0 : Int) < (pn : Int) := by omega
                  have hp2e : (2 : Int) ≤ (pn2 : Int) := by omega
                  have hp2f : (1 : Int) ≤ (pn : Int) := by omega
                  have HBE := hid (And.intro (behind_if bh oh pn ch 1) (behind_if bp op pn2 cp 2))
                  clear r1 r2
                  generalize behind bh oh pn ch 1 = vh2 at *
                  generalize behind bp op pn2 cp 2 = vp2 at *
                  go_wp2_with fail
                  refine hcon.out.mono ?_
                  rintro e w7 ⟨v7, rfl, ho7, hr7, hk7⟩
                  obtain ⟨vb, vc, hv7, hvc7, _, _, hcells⟩ := ownsB_open ho7 ha5
                  subst hv7
                  have c4 := (hcells 0 ha5).1
                  rw [Nat.zero_mul] at c4
                  replace c1 := cell_kept hk7 (b := bh) (.inl rfl) c1
                  replace c2 := cell_kept hk7 (b := bp) (.inr rfl) c2
                  replace c3 := cell_kept hk7 (b := bp) (.inr rfl) c3
                  have hgc := hid ((hr7.below ((Below.refl _ _).drew)).give ((p.1.getD 0 0 : Nat) : Int) (p.2.length : Int) HGB.out)
                  have HK7 := hid hk7
                  clear hcells ho7 hr7 hk7 hcon
                  generalize hpad : (p.2.getD 0 default).addr = pad at *
                  generalize hpl9 : p.2.length = pln at *
                  generalize hhd9 : p.1.getD 0 0 = hd9 at *
                  have HP9 := hid (And.intro hpad (And.intro hpl9 hhd9))
                  have hpl0 : (0 : Int) < (pln : Int) := by omega
                  clear hpad hpl9 hhd9
                  go_wp2_with fail
                  go_region_held3 (fun w' => w'.cell? ⟨bh, oh, none⟩ = some (.int .i64 (hd9 : Nat)) ∧ w'.cell? ⟨bp, op, none⟩ = some (.int .i64 pad) ∧ w'.cell? ⟨bp, op + 1, none⟩ = some (.int .i64 (pln : Nat)) ∧ w'.cell? ⟨vb, 0, none⟩ = some (.int .i64 pad)) ((first | exact ⟨c1, c2, c3, c4⟩ | exact HS8.out))
                    ((go_at_call 22; refine hgc.out.mono ?_; rintro e w8 ⟨rfl, hr8, hk8⟩; have HS8 := hid (And.intro (cell_kept (w := w7.drew) hk8 (b := bh) (.inl (.inl rfl)) c1) (And.intro (cell_kept (w := w7.drew) hk8 (b := bp) (.inl (.inr rfl)) c2) (And.intro (cell_kept (w := w7.drew) hk8 (b := bp) (.inl (.inr rfl)) c3) (cell_kept (w := w7.drew) hk8 (b := vb) (.inr rfl) c4)))); have HR8 := hid hr8; have HK8 := hid hk8; clear hr8 hk8))
                  obtain ⟨k1, k2, k3, k4⟩ := HS8.out
                  have hc9 := hid (HR8.out.used_some (by rw [HGV.out.1]; have := HUS.out; omega) (hd9 : Nat) (pln : Nat) HGV.out.2.1 HGV.out.2.2 p.1 HPOP.out.1)
                  clear c1 c2 c3 c4 k2 k4 HS8 hgc
                  go_wp2_with fail
                  refine hc9.out.mono ?_
                  rintro e w9 ⟨rfl, hr9, hk9⟩
                  replace k1 := cell_kept hk9 (b := bh) (.inl (.inl rfl)) k1
                  replace k3 := cell_kept hk9 (b := bp) (.inl (.inr rfl)) k3
                  have HR9 := hid hr9
                  have HK9 := hid hk9
                  clear hr9 hk9 hc9
                  go_wp2
                  go_quiet (fail)
                  go_wp2
                  go_roundw
                  case rel =>
                    have kp : ∀ b, b = bh ∨ b = bp → (w9.heap[b]? = wr.heap[b]?) := fun b hb => by
                      have hb' : blk (Value.slice (some ⟨bh, oh, none⟩) pn ch) = some b ∨ blk (Value.slice (some ⟨bp, op, none⟩) pn2 cp) = some b := by
                        rcases hb with rfl | rfl
                        · exact .inl rfl
                        · exact .inr rfl
                      exact ((HK9.out b (.inl hb')).trans (HK8.out b (.inl hb'))).trans (HK7.out b hb')
                    rw [HBE.out.1, HBE.out.2]
                    refine ⟨UseA A (hd9 : Nat) p.1, _, (o + 1) % 65536, P', HT1.out.1.keep (fun b hb => kp b (.inl (by rw [HT1.out.2] at hb; simpa using hb.symm))), HT2.out.1.keep (fun b hb => kp b (.inr (by rw [HT2.out.2] at hb; simpa using hb.symm))), ?_, ?_, (HR9.out.below (below_drewN (Below.refl _ _) _)).less ?_, HPOP.out.2⟩
                    · intro b hb
                      rw [HT1.out.2, HT2.out.2] at hb
                      exact HBB.out b hb
                    · intro b hb
                      rw [HT1.out.2] at hb
                      rw [HT2.out.2]
                      exact HNE.out b hb
                    · intro b hb
                      rw [HT1.out.2, HT2.out.2] at hb
                      exact .inl hb
                  case measure =>
                    rw [HBE.out.1]
                    exact HLO.out
            · have hfi : ¬ ((fl : Int) < (kk : Int)) := by omega
              have hfb : decide ((fl : Int) < (kk : Int)) = false := decide_eq_false hfi
              have hcon := hid (HRUN.out.add wr HB18.out (some ⟨lb, 0, none⟩) kk lc (mkB at_ kk) (mkB_len _ _) HBUF.out (fun b off e => by simp at e; omega) HOK.out.1 (by omega) (by rw [HFL.out]; omega) (by omega))
              have hsn := hid (HSA.out.add (mkB at_ kk) (by rw [mkB_len]; omega) (by rw [mkB_len, HFL.out]; omega) HOK.out.1 HOK.out.2)
              have hhl : hl (P ++ [(A.free.take kk, mkB at_ kk)]) = hl P ++ [((A.free.getD 0 0 : Nat) : Int)] := by have ht := take_getD A.free kk 0 (by omega); simp only [hl, List.map_append, List.map_cons, List.map_nil]; rw [ht]
              have hpl : pl (P ++ [(A.free.take kk, mkB at_ kk)]) = pl P ++ [(at_ : Int), (kk : Int)] := by simp only [pl, List.flatMap_append, List.flatMap_cons, List.flatMap_nil, List.append_nil, mkB_len, mkB_zero at_ kk (by omega)]
              have HHP := hid (And.intro hhl hpl)
              have hfa : (AddA A kk).free.length = fl - kk := by rw [← HFL.out]; simp [AddA]
              have HFA := hid hfa
              generalize A.free.getD 0 0 = hd0 at *
              clear hhl hpl hfa
              have ea : IntKind.i64.wrap ((at_ : Int) + (kk : Int)) = ((at_ + kk : Nat) : Int) := by rw [IntWalk.i64_in _ (by omega)]; omega
              have ef : IntKind.i64.wrap ((fl : Int) - (kk : Int)) = ((fl - kk : Nat) : Int) := by rw [IntWalk.i64_in _ (by omega)]; omega
              have hvc1 : ∀ t, t < 1 → (#[Value.int .i64 (hd0 : Nat)])[t]? = some (.int .i64 ([((hd0 : Nat) : Int)].getD t 0)) := fun t ht => by
                obtain rfl : t = 0 := by omega
                rfl
              have hvc2 : ∀ t, t < 2 → (#[Value.int .i64 (at_ : Nat), Value.int .i64 (kk : Int)])[t]? = some (.int .i64 ([((at_ : Nat) : Int), (kk : Int)].getD t 0)) := fun t ht => by
                rcases (show t = 0 ∨ t = 1 by omega) with rfl | rfl <;> rfl
              have HVC := hid (And.intro hvc1 hvc2)
              clear hvc1 hvc2
              go_wp2_with (go_at_call 12; refine hfree.out.mono ?_; rintro e w5 ⟨rfl, hw5⟩; rw [hw5]; clear hw5 w5)
              refine hcon.out.mono ?_
              rintro e w6 ⟨rfl, hr6, hk6⟩
              have HQ1a := hid (HQ1.out.keep (w' := w6) (fun b hb => hk6 b (.inl hb)))
              have HQ2a := hid (HQ2.out.keep (w' := w6) (fun b hb => hk6 b (.inr hb)))
              have HR6 := hid hr6
              clear hr6 hk6 hfree
              go_wp2_with (first
                | (at_builtin; refine wpList_app_run rfl (.tmp 117) (.tmp 119) rfl _ _ (hl P) (pl P) rfl w6 _ [((hd0 : Nat) : Int)] 1 1 rfl HQ1a.out HQ2a.out HNE.out HBB.out HR6.out rfl (by omega) rfl HVC.out.1 (by rw [hl_len, HPN.out]; omega) ?_; intro vh7 w7 q7 q7o n7 b7 r7)
                | (at_builtin; refine wpList_app_run rfl (.tmp 121) (.tmp 124) rfl _ vh7 (pl P) (hl P ++ [((hd0 : Nat) : Int)]) rfl w7 _ [((at_ : Nat) : Int), (kk : Int)] 2 2 rfl q7o.out q7.out (fun b hb e => n7.out b e hb) (fun b hb => b7.out b hb.symm) (r7.out.less (fun b hb => hb.symm)) rfl (by omega) rfl HVC.out.2 (by rw [pl_len, HPN.out]; omega) ?_; intro vp8 w8 q8 q8o n8 b8 r8)
                | (go_at_call 12; refine r8.out.free.mono ?_; rintro e w9 ⟨rfl, hw9⟩; rw [hw9, HFA.out]; clear hw9 w9))
              go_roundw
              case rel =>
                refine ⟨i + 1, at_ + kk, AddA A kk, _, o, P ++ [(A.free.take kk, mkB at_ kk)], by omega, by go_num, rfl, by omega, ?_, ?_, fun b hb => b8.out b hb.symm, fun b hb e => n8.out b e hb, r8.out.less (fun b hb => hb.symm), ?_⟩
                · rw [HHP.out.1]; exact q8o.out
                · rw [HHP.out.2]; exact q8.out
                · have := hsn.out
                  rw [mkB_len] at this
                  exact this
              case measure => simp only [RowKit.intOf]; omega
    · have hlt' : ¬ ((i : Int) < R) := hlt
      go_wp2
      go_ret
      exact ⟨rfl, HRUN.out.bel.1⟩
end Go.Proofs.Ytjnhcbompgmknaa
