import Derived.Test.YtmfabeghfdoibaaGreatQT12GtFn
namespace Go.Proofs.YtmfabeghfdoibaaGreat
open Go.RowKit
theorem cell_of_below {w w':World} {n:Nat} (h:Below n w w') {p:Addr} (hp:p.block<n) {v:Value} (c:w.cell? p=some v):w'.cell? p=some v:=by
 rw [h.cell hp];exact c
end Go.Proofs.YtmfabeghfdoibaaGreat
