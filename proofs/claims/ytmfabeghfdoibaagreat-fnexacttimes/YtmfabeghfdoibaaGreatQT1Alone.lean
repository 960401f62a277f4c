import Derived.Conc.Holds
import Derived.Test.YtmfabeghfdoibaaGreatRows
namespace Go.Proofs.YtmfabeghfdoibaaGreat
open Go.Conc
theorem alone_only {P:Program} {m:Machine} (h:m.quiet):m.OnlyLeaving P :=
 ⟨fun g hg=>⟨0,show g.status = .finished by have h2:=List.all_eq_true.1 h.1 g hg;simpa using h2⟩,h.2⟩
theorem leaving_of_alone {a:Assume} {C:Checked} {os:Os} {f:FuncId} {r:Reach} {Pre:World→Array Value→Prop} {Post:World→Array Value→Value→World→Prop}
 (h:ReturnsInHanded a C os f r Pre Post):ReturnsInLeavingWide a C os f r Pre Post:=fun enter=>by
 obtain ⟨e1,own,st,wit,h⟩:=h enter
 refine ⟨e1,own,st,wit,fun w tape i fits=>?_⟩
 obtain ⟨n,v,w',h1,h2,h3,h4,⟨j,last,h5,h6,h7⟩,h8⟩:=h w tape i fits
 exact ⟨n,v,w',h1,h2,h3,h4,⟨j,last,h5,h6,h7.2.1,alone_only h7.1,h7.2.2⟩,h8⟩
end Go.Proofs.YtmfabeghfdoibaaGreat
