/- EtherPeers' steps. -/
import Derived.Test.YtlflbpemjlgdiaaEjG
namespace Go.Proofs.Ytlflbpemjlgdiaa
open Go.RowKit Go.Maps
set_option linter.unusedVariables false

structure St where
  kd : Int
  ip : Int
  mac : Mac
  m1 : Mac
  m2 : Mac
  k : Int
  a : Option Addr
  n : Nat
  c : Nat
  body : List Int
abbrev stC (s : St) : Array Value := #[.int .i64 s.kd, .int .u32 s.ip, .int .u8 s.mac.a, .int .u8 s.mac.b, .int .u8 s.mac.c, .int .u8 s.mac.d, .int .u8 s.mac.e, .int .u8 s.mac.f, .int .u8 s.m1.a, .int .u8 s.m1.b, .int .u8 s.m1.c, .int .u8 s.m1.d, .int .u8 s.m1.e, .int .u8 s.m1.f, .int .u8 s.m2.a, .int .u8 s.m2.b, .int .u8 s.m2.c, .int .u8 s.m2.d, .int .u8 s.m2.e, .int .u8 s.m2.f, .int .i64 s.k, .slice s.a s.n s.c]
def St.ok (w : World) (s : St) : Prop := IsU s.ip ∧ s.mac.ok ∧ s.m1.ok ∧ s.m2.ok ∧ (-9223372036854775808 ≤ s.k ∧ s.k ≤ 9223372036854775807) ∧ s.body.length = s.n ∧ Bytes w s.a s.body ∧ s.n ≤ maxLen ∧ s.n ≤ s.c
instance : Inhabited St := ⟨⟨0, 0, mac0, mac0, mac0, 0, none, 0, 0, []⟩⟩
/-- A row of steps. -/
def StR (w : World) (a : Option Addr) (l : List St) : Prop :=
  ∀ i, i < l.length → (l.getD i default).ok w ∧ ∃ b off, a = some ⟨b, off, none⟩ ∧ ∀ j, j < 22 → w.cell? ⟨b, off + i * 22 + j, none⟩ = (stC (l.getD i default))[j]?
theorem sizeSt : (Try.prog.info? 49).map (·.size) = some 22 := by kernel_rfl
theorem stC_one (s : St) : (stC s).all (·.oneCell') = true := by simp [Value.oneCell']
abbrev st0 : Array Value := #[.int .i64 0, .int .u32 0, .int .u8 0, .int .u8 0, .int .u8 0, .int .u8 0, .int .u8 0, .int .u8 0, .int .u8 0, .int .u8 0, .int .u8 0, .int .u8 0, .int .u8 0, .int .u8 0, .int .u8 0, .int .u8 0, .int .u8 0, .int .u8 0, .int .u8 0, .int .u8 0, .int .i64 0, .slice none 0 0]
theorem box22 (w : World) (M : Array Value) (hs : M.size = 22) (h1 : M.all (·.oneCell') = true) : ∃ W5, W5 = w.alloc (.cells #[.int .i64 0, .int .u32 0, .int .u8 0, .int .u8 0, .int .u8 0, .int .u8 0, .int .u8 0, .int .u8 0, .int .u8 0, .int .u8 0, .int .u8 0, .int .u8 0, .int .u8 0, .int .u8 0, .int .u8 0, .int .u8 0, .int .u8 0, .int .u8 0, .int .u8 0, .int .u8 0, .int .i64 0, .slice none 0 0] 49) ∧ W5.heap[w.heap.size]? = some (.cells st0 49 (0, 0)) ∧ ∃ W6, W6 = W5.setRow w.heap.size M ∧ W6.heap[w.heap.size]? = some (.cells M 49 (0, 0)) ∧ Below w.heap.size w W6 := by
  have k3 : (w.alloc (.cells st0 49)).heap[w.heap.size]? = some (.cells st0 49 (0, 0)) := alloc_new w _
  have b3 : Below w.heap.size w (w.alloc (.cells st0 49)) := below_alloc (Below.refl _ _) (Nat.le_refl _) _
  exact ⟨_, rfl, k3, _, rfl, setRow_heap _ _ _ _ _ _ k3, (setRow_mods _ _ _).to_below b3 b3.size (fun x hx => by rw [hx]; exact Nat.le_refl _)⟩
theorem look_at {L : List Pe} (h : OkL L) (d : Pe) (j : Nat) (hj : j < L.length) : lookP L (L.getD j d).ip = some (L.getD j d) := by
  refine look_first _ d L j hj (fun i hi e => ?_) rfl
  have hn := h.nd
  rw [List.nodup_iff_pairwise_ne, List.pairwise_iff_getElem] at hn
  have := hn i j (by simp; omega) (by simpa using hj) hi
  simp [List.getD, show i < L.length by omega, hj] at this e
  exact this e
theorem ips_at (L : List Pe) (d : Pe) (j : Nat) (hj : j < L.length) : (L.map Pe.ip).getD j 0 = (L.getD j d).ip := by simp [List.getD, hj]
/-- Both sides' peers, one beside the other. -/
structure Bo2 (w V : World) (p q : Nat) (S T : Nat → Prop) (own : Mac) (ip : Int) (m : Nat) (L : List Pe) : Prop where
  pe : PeAt V p S own ip m L
  rp : RPeAt V q T own ip L
  s : ∀ b, S b → w.heap.size ≤ b ∧ b < V.heap.size
  t : ∀ b, T b → w.heap.size ≤ b ∧ b < V.heap.size
  d : ∀ b, S b → ¬ T b
  bel : Below w.heap.size w V
theorem Bo2.later {w V V' : World} {p q : Nat} {S T : Nat → Prop} {own : Mac} {ip : Int} {m : Nat} {L : List Pe} (h : Bo2 w V p q S T own ip m L) (hb : Below V.heap.size V V') : Bo2 w V' p q S T own ip m L :=
  ⟨h.pe.later hb, h.rp.later hb, fun b hs => ⟨(h.s b hs).1, Nat.lt_of_lt_of_le (h.s b hs).2 hb.size⟩, fun b hs => ⟨(h.t b hs).1, Nat.lt_of_lt_of_le (h.t b hs).2 hb.size⟩, h.d, h.bel.trans (hb.mono h.bel.size)⟩
/-- Both sides have made a step. -/
theorem Bo2.step {w V V1 V2 : World} {p q : Nat} {S S' T T' : Nat → Prop} {own : Mac} {ip : Int} {m m' : Nat} {L L' : List Pe} (h : Bo2 w V p q S T own ip m L) (hp : PeAt V1 p S' own ip m' L') (hk : Kp S V S' V1) (hs : ∀ b, S' b → b < V1.heap.size) (hr : RPeAt V2 q T' own ip L') (hk2 : Kp T V1 T' V2) (ht : ∀ b, T' b → b < V2.heap.size) : Bo2 w V2 p q S' T' own ip m' L' := by
  have hst : ∀ b, S' b → ¬ T b := fun b h1 h2 => by
    rcases hk.1 b h1 with h3 | h3
    · exact h.d b h3 h2
    · have := (h.t b h2).2; omega
  refine ⟨hp.mods hk2.2 hst, hr, fun b h1 => ⟨?_, Nat.lt_of_lt_of_le (hs b h1) hk2.2.size⟩, fun b h1 => ⟨?_, ht b h1⟩, fun b h1 h2 => ?_, ?_⟩
  · rcases hk.1 b h1 with h3 | h3
    · exact (h.s b h3).1
    · exact Nat.le_trans h.bel.size h3
  · rcases hk2.1 b h1 with h3 | h3
    · exact (h.t b h3).1
    · exact Nat.le_trans h.bel.size (Nat.le_trans hk.2.size h3)
  · rcases hk2.1 b h2 with h3 | h3
    · exact hst b h1 h3
    · have := hs b h1; omega
  · have b1 := (hk.below0 h.bel (fun b hb => (h.s b hb).1)).1
    exact (hk2.below0 b1 (fun b hb => (h.t b hb).1)).1
end Go.Proofs.Ytlflbpemjlgdiaa
