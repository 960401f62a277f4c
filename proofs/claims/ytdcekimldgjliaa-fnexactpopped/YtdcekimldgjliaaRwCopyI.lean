/-
  The walk of the program's copy of rows. By the verifier.
-/
import Derived.Test.YtdcekimldgjliaaRwAll
import Derived.Test.YtdcekimldgjliaaIzBlk
import Derived.Test.YtdcekimldgjliaaIzGrow
import Derived.Test.YtdcekimldgjliaaItCpy
import Derived.Test.YtdcekimldgjliaaRwFn
import Derived.Test.YtdcekimldgjliaaStepRow
import Derived.Laws.ResultCell
import Derived.Laws.CopyOwn
namespace Go.Proofs.Ytdcekimldgjliaa
open Go.RowKit

theorem implCopied (r : Rw) (a : Option Addr) (c : Nat) (w : World) (hB : r.big ≤ 1048576) (h : Hid (IzAt w a r.lists)) :
    Calls Try.prog 38 #[r.val a c] w fun e w' => (∃ v vs, e = .returned (.agg #[.int .i64 r.most, v]) ∧ IzG (w.heap.size + 2) v vs r.lists w') ∧ Below w.heap.size w w' :=
  (implCpyRw r a c w hB h).mono fun _ _ hh => by
    obtain ⟨⟨v, vs, e, hG, _⟩, hb⟩ := hh
    exact ⟨⟨v, vs, e, hG⟩, hb⟩
end Go.Proofs.Ytdcekimldgjliaa
