import Derived.Test.YtgebghkcikmfaaaGreatDoorQP11NumUp
namespace Go.Proofs.YtgebghkcikmfaaaGreatDoor
open Go.RowKit
theorem specAddr (n:Int) (w:World) :
 Calls Tryz.prog 259 #[.int .i64 n] w fun e w'=>e = .returned (.bool (inB 0 4294967295 n))∧w'=w:=by
 go_enter Tryz.func259,Tryz.ntmps259
 go_wp2_with (go_at_call 72;refine (specIn _ _ _ _).mono ?_;rintro e w' ⟨rfl,rfl⟩)
 go_ret
 exact ⟨rfl,rfl⟩
end Go.Proofs.YtgebghkcikmfaaaGreatDoor
