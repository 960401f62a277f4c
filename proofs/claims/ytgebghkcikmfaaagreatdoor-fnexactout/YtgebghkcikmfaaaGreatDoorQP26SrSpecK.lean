import Derived.Test.YtgebghkcikmfaaaGreatDoorQP23GtFn
set_option maxHeartbeats 1600000
namespace Go.Proofs.YtgebghkcikmfaaaGreatDoor
open Go.RowKit
theorem specSteerOk (p:Sr) (w:World) :
 Calls Tryz.prog 73 #[p.val] w fun e w'=>e = .returned (.bool p.ok)∧Bel w w':=by
 have Hok:Hid (p.ok=(inB 1 1000 p.target&&(inB 0 100000 p.old&&inB 0 1048576 p.prob))):=rfl
 obtain ⟨v0,v1,v2⟩:=p
 generalize Sr.ok _=ok at Hok ⊢
 simp only [Sr.val] at Hok ⊢
 have A1:=fun w=>specIn v0 1 1000 w
 have A2:=fun w=>specIn v1 0 100000 w
 have A3:=fun w=>specIn v2 0 1048576 w
 generalize inB 1 1000 v0=b1 at A1 Hok
 generalize inB 0 100000 v1=b2 at A2 Hok
 generalize inB 0 1048576 v2=b3 at A3 Hok
 have A1':Hid _:=A1
 have A2':Hid _:=A2
 have A3':Hid _:=A3
 clear A1 A2 A3
 go_enter Tryz.func73,Tryz.ntmps73
 go_wp2_with fail
 refine (A1'.out _).mono ?_
 rintro e w' ⟨rfl,rfl⟩
 cases b1
 ·go_wp2
  go_ret
  exact ⟨ret_bool (by rw [Hok.out];rfl),(Below.refl _ _).alloc nlr _⟩
 go_wp2_with fail
 refine (A2'.out _).mono ?_
 rintro e w' ⟨rfl,rfl⟩
 cases b2
 ·go_wp2
  go_ret
  exact ⟨ret_bool (by rw [Hok.out];rfl),(Below.refl _ _).alloc nlr _⟩
 go_wp2_with fail
 refine (A3'.out _).mono ?_
 rintro e w' ⟨rfl,rfl⟩
 go_wp2
 go_ret
 exact ⟨ret_bool (by rw [Hok.out];rfl),(Below.refl _ _).alloc nlr _⟩
end Go.Proofs.YtgebghkcikmfaaaGreatDoor
