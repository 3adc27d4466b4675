/- Hosts as bytes. -/
import Derived.Test.YtmmijbiapflneabEcE
namespace Go.Proofs.Ytmmijbiapflneab
open Go.RowKit Go.Maps
set_option linter.unusedVariables false

theorem fits_one (k v : Int) (h : v / 256 ^ k.toNat = 0) : fitsB k [v] = true := by simp [fitsB, fitB, h]
theorem mac_bytes {w : World} {b o : Nat} {m : Mac} (hm : m.ok) (h : ∀ i, i < 6 → w.cell? ⟨b, o + i, none⟩ = some (.int .u8 (m.l.getD i 0))) : Bytes w (some ⟨b, o, none⟩) m.l := Bytes.mk_ hm (fun i hi => h i hi)
end Go.Proofs.Ytmmijbiapflneab
