import Derived.Test.YtmfabeghfdoibaaGreatQT15Quiet
namespace Go.Proofs.YtmfabeghfdoibaaGreat
open Go.RowKit
theorem wpList_of_quiet {P:Program} {ops:Array Oper} {C:World→Prop} {Q:Exit→Act→World→Prop}:∀ (l:List Oper) (a:Act) (w:World),C w→wpQuiet P ops C (fun a'=>∀ w',C w'→Q .normal a' w') l a→wpList P ops Q l a w
 |[],_,w,hC,h=>h w hC
 |o :: rest,a,w,hC,h=>by
  unfold wpList
  unfold wpQuiet at h
  split
  ·rename_i hw
   rw [if_pos hw] at h
   exact .inl (Oper.wp_of_quiet hC (fun a' w' hc hk=>wpList_of_quiet rest a' w' hc hk) h)
  ·rename_i hw
   rw [if_neg hw] at h
   exact wpList_of_quiet rest _ w hC h
theorem region_belowS {P:Program} {id:Nat} {Q:Exit→Act→World→Prop} {a:Act} {w:World} {l:List Oper} (n:Nat)
 (h:wpQuiet P l.toArray (fun x=>∃ p:BelW n w,x=p.w') (fun a'=>∀ x,(∃ p:BelW n w,x=p.w')→Q .normal a' x) l a):(Code.region id l.toArray false).wp P Q a w :=
 wp_region_lit (wpList_of_quiet (C:=fun x=>∃ p:BelW n w,x=p.w') l a w ⟨⟨w,Below.refl _ _⟩,rfl⟩ h)
end Go.Proofs.YtmfabeghfdoibaaGreat
