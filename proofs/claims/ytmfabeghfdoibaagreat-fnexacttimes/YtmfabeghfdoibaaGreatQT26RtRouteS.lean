import Derived.Test.YtmfabeghfdoibaaGreatQT12GtFn
namespace Go.Proofs.YtmfabeghfdoibaaGreat
open Go.RowKit
theorem specRoute (r:Rt) (w:World) :
 Calls Tryz.prog 148 #[r.val] w fun e w'=>e = .returned (.bool r.ok)∧w'=w.alloc (.cells #[.int .i64 r.net,.int .i64 r.bits,.int .i64 r.hop] 148):=by
 unfold Rt.ok Rt.val
 obtain ⟨net,bits,hop⟩:=r
 simp only []
 have C:=fun w=>specNet net bits w
 have D:=fun w=>specIn hop 0 99 w
 cases hn:netB net bits
 ·rw [hn] at C
  clear D hn
  go_enter Tryz.func148,Tryz.ntmps148
  go_wp2_with (go_at_call 192;refine (C _).mono ?_;rintro e w' ⟨rfl,rfl⟩)
  go_ret
  exact ⟨rfl,rfl⟩
 ·rw [hn] at C
  clear hn
  generalize inB 0 99 hop=b at D ⊢
  go_enter Tryz.func148,Tryz.ntmps148
  go_wp2_with (first|(go_at_call 192;refine (C _).mono ?_;rintro e w' ⟨rfl,rfl⟩)|(go_at_call 86;refine (D _).mono ?_;rintro e w' ⟨rfl,rfl⟩))
  go_ret
  exact ⟨rfl,rfl⟩
end Go.Proofs.YtmfabeghfdoibaaGreat
