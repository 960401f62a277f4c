/-
  The walk of FnExactNewGate, with what the program's NewGate answers. By the verifier.
-/
import Derived.Test.YtfkkmjejmflgjaaQ43LawNewG
import Derived.Test.YtfkkmjejmflgjaaQ51GtNewI
namespace Go.Proofs.Ytfkkmjejmflgjaa
open Go.RowKit

theorem fnExactNewGate_walk (l : Ln) (t : List Nd) (ta : Option Addr) (tc : Nat) (ls : List Int) (la : Option Addr) (lc : Nat) (w : World) (hlt : (t.length : Int) ≤ 9223372036854775807) (ht : Hid (NdsAt w ta t)) (hll : (ls.length : Int) ≤ 9223372036854775807) (hl : Hid (IntsAt w la ls)) :
    Calls Try.prog 3 #[l.val, .slice ta t.length tc, .slice la ls.length lc] w fun e w' => e = .returned (.bool true) ∧ Below w.heap.size w w' :=
  fnExactNewGate_of (fun l t ta tc ls la lc w h1 h2 h3 h4 h5 h6 => implNewGate l t ta tc ls la lc w h1 h2 h3 h4 h5 h6) l t ta tc ls la lc w hlt ht hll hl
end Go.Proofs.Ytfkkmjejmflgjaa
