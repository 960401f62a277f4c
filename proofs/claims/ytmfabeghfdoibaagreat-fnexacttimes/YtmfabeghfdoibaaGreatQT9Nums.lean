import Derived.Test.YtmfabeghfdoibaaGreatQT7NumIn
import Derived.Test.YtmfabeghfdoibaaGreatQT8NumUp
namespace Go.Proofs.YtmfabeghfdoibaaGreat
open Go.RowKit
theorem specAddr (n:Int) (w:World) :
 Calls Tryz.prog 229 #[.int .i64 n] w fun e w'=>e = .returned (.bool (inB 0 4294967295 n))∧w'=w:=by
 go_enter Tryz.func229,Tryz.ntmps229
 go_wp2_with (go_at_call 86;refine (specIn _ _ _ _).mono ?_;rintro e w' ⟨rfl,rfl⟩)
 go_ret
 exact ⟨rfl,rfl⟩
end Go.Proofs.YtmfabeghfdoibaaGreat
