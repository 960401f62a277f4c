/-
  The exact law of Ruled, walked with what the program answers. By the verifier.
-/
import Derived.Test.YtaojbmhodpffiaaGreatK41LawRuledG
import Derived.Test.YtaojbmhodpffiaaGreatK52GtRuledI
namespace Go.Proofs.YtaojbmhodpffiaaGreat
open Go.RowKit

theorem fnExactRuled_walk (g : Gt) (x : Ga) (rl : List Rt) (ra : Option Addr) (rc : Nat) (ul : List Ru) (ua : Option Addr) (uc : Nat) (w : World) (hl : GtLen g) (h : Hid (GtV w x g)) (hlr : (rl.length : Int) ≤ 9223372036854775807) (hr : Hid (RtsAt w ra rl)) (hlu : (ul.length : Int) ≤ 9223372036854775807) (hu : Hid (RusAt w ua ul)) :
    Calls Tryz.prog 5 #[g.val x, .slice ra rl.length rc, .slice ua ul.length uc] w fun e w' => e = .returned (.bool true) ∧ Below w.heap.size w w' :=
  fnExactRuled_of implRuled g x rl ra rc ul ua uc w hl h hlr hr hlu hu
end Go.Proofs.YtaojbmhodpffiaaGreat
