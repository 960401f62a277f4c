import Derived.Test.YtgebghkcikmfaaaGreatDoorQP33RegList
namespace Go.Proofs.YtgebghkcikmfaaaGreatDoor
open Go.RowKit
theorem op_valY {P:Program} {o:Oper} {a:Act} {w w':World} {K:Act→World→Prop} {Q:Exit→Act→World→Prop} {v:Value} (hr:(execOp a.eval o).run P w = .ok (.value v) w') (h:K (a.put o.dst v) w'):o.wp P a w K Q:=by
 unfold Oper.wp
 rw [hr]
 exact h
theorem op_moveY {P:Program} {o:Oper} {a:Act} {w:World} {K:Act→World→Prop} {Q:Exit→Act→World→Prop} (t:Tmp) (ho:o.op = .move (.tmp t)) (h:K (a.put o.dst (a.tmps.getD t undef)) w):o.wp P a w K Q:=by
 unfold Oper.wp
 simp [execOp,ho,Act.eval,Oper.upon]
 simpa using h
theorem tq {a:Act} {d:Nat} {v:Value} (h:a.tmps.getD d undef=v):a.tmps[d]?.getD undef=v:=by simpa using h
theorem rs_val {P:Program} {ops:Array Oper} {o:Oper} {a:Act} {w:World} {Q:Exit→Act→World→Prop} {G:Type} {R I:G→World→Prop} {Pr:G→World→Value→Prop} (hg:o.guard=none) (hd:o.dst≠none) (v:Value) (y:G) (hr:(execOp a.eval o).run P w = .ok (.value v) w) (h1:R y w) (h2:I y w) (h3:Pr y w v) :
 Region.wanted o (yielded ops a.tmps)=true∧o.wp P a w (fun a' w'=>∃ v y',a'=a.put o.dst v∧R y' w'∧I y' w'∧∀ u,(o.dst≠none→u=v)→Pr y' w' u) Q :=
 ⟨wno hg,op_valY hr ⟨v,y,rfl,h1,h2,fun u hu=>by rw [hu hd];exact h3⟩⟩
end Go.Proofs.YtgebghkcikmfaaaGreatDoor
