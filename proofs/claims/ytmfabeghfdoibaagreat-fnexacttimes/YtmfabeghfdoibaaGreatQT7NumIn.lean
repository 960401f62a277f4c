import Derived.Test.YtmfabeghfdoibaaGreatRows
import Derived.WalkSpells
import Derived.WalkLawsBesides
import Derived.Test.YtmfabeghfdoibaaGreatQT0FrPlain
namespace Go.Proofs.YtmfabeghfdoibaaGreat
open Go.RowKit
theorem ret_bool {a b:Bool} (h:a=b):Ending.returned (.bool a) = .returned (.bool b):=by rw [h]
theorem ret_num {a b:Int} (h:a=b):Ending.returned (.int .i64 a) = .returned (.int .i64 b):=by rw [h]
theorem specIn (n lo hi:Int) (w:World) :
 Calls Tryz.prog 86 #[.int .i64 n,.int .i64 lo,.int .i64 hi] w fun e w'=>e = .returned (.bool (inB lo hi n))∧w'=w:=by
 by_cases h0:lo≤n
 ·by_cases h1:n≤hi
  ·have h:inB lo hi n=true:=by rw [inB_true];omega
   rw [h]
   go_enter Tryz.func86,Tryz.ntmps86
   go_wp2
   go_ret
   exact ⟨rfl,rfl⟩
  ·have h:inB lo hi n=false:=by rw [inB_false];omega
   rw [h]
   go_enter Tryz.func86,Tryz.ntmps86
   go_wp2
   go_ret
   exact ⟨rfl,rfl⟩
 ·have h:inB lo hi n=false:=by rw [inB_false];omega
  rw [h]
  go_enter Tryz.func86,Tryz.ntmps86
  go_wp2
  go_ret
  exact ⟨rfl,rfl⟩
end Go.Proofs.YtmfabeghfdoibaaGreat
