import Derived.RegionTactic
import Derived.Test.YtgebghkcikmfaaaGreatDoorQP0NumIn
namespace Go.Proofs.YtgebghkcikmfaaaGreatDoor
open Go.RowKit
def edgesBack (ops:Array Oper):Bool:=(List.range ops.size).all fun i=>((ops[i]?).map (·.after.all fun e=>decide (e.on<i))).getD true
theorem getD_eq {L:Array Bool} {i:Nat} (h:i<L.size) (d:Bool):L.getD i d=L[i]:=by simp [Array.getD,h]
theorem ready_mem {ops:Array Oper} {L:Array Bool} {i:Nat} (h:i∈Region.ready .any ops L) :
 i<ops.size∧L.getD i true=false∧∀ o,ops[i]? = some o→∀ e,e∈o.after.toList→Region.binds .any e=true→L.getD e.on false=true:=by
 unfold Region.ready at h
 rw [List.mem_filter,List.mem_range,Bool.and_eq_true,Bool.not_eq_true'] at h
 obtain ⟨h1,h2,h3⟩:=h
 refine ⟨h1,h2,fun o ho e he hb=>?_⟩
 rw [ho] at h3
 simp only [Option.map_some,Option.getD_some,Array.all_eq_true',Bool.or_eq_true,Bool.not_eq_true'] at h3
 rcases h3 e (Array.mem_def.2 he) with h4|h4
 ·rw [hb] at h4;cases h4
 ·exact h4
theorem all_listed {ops:Array Oper} {L:Array Bool} (hb:edgesBack ops=true) (hs:L.size=ops.size) (hr:Region.ready .any ops L=[]):∀ i,i<ops.size→L.getD i true=true:=by
 intro i
 induction i using Nat.strongRecOn with
 |_ i ih =>
  intro hi
  cases hl:L.getD i true with
  |true=>rfl
  |false =>
   have:i∈Region.ready .any ops L:=by
    unfold Region.ready
    rw [List.mem_filter,List.mem_range,Bool.and_eq_true,Bool.not_eq_true']
    refine ⟨hi,hl,?_⟩
    rw [Array.getElem?_eq_getElem hi]
    simp only [Option.map_some,Option.getD_some,Array.all_eq_true',Bool.or_eq_true,Bool.not_eq_true']
    intro e he
    right
    unfold edgesBack at hb
    rw [List.all_eq_true] at hb
    have h2:=hb i (List.mem_range.2 hi)
    rw [Array.getElem?_eq_getElem hi] at h2
    simp only [Option.map_some,Option.getD_some,Array.all_eq_true',decide_eq_true_eq] at h2
    have h3:=h2 e he
    have h4:=ih e.on h3 (by omega)
    rw [getD_eq (by omega)] at h4 ⊢
    exact h4
   rw [hr] at this
   cases this
theorem count_set {L:Array Bool} {i:Nat} (hi:i<L.size) (h:L.getD i true=false):(L.setIfInBounds i true).toList.count false+1=L.toList.count false:=by
 rw [getD_eq hi] at h
 rw [Array.toList_setIfInBounds,List.count_set (by simpa using hi)]
 have h2:L.toList[i]'(by simpa using hi)=false:=by simpa using h
 have h3:0<L.toList.count false:=List.count_pos_iff.2 (by rw [← h2];exact List.getElem_mem _)
 rw [h2]
 have e1:(if (false==false)=true then 1 else 0)=1:=rfl
 have e2:(if (true==false)=true then 1 else 0)=0:=rfl
 rw [e1,e2]
 omega
theorem wpAny_inv {P:Program} {ops:Array Oper} {Q:Exit→Act→World→Prop} (J:Array Bool→Act→World→Prop) (hb:edgesBack ops=true)
 (hstep:∀ L a w i o,J L a w→L.size=ops.size→ops[i]? = some o→L.getD i true=false→(∀ e,e∈o.after.toList→Region.binds .any e=true→L.getD e.on false=true)→wpOp P ops Q i (J (L.setIfInBounds i true)) a w)
 (hdone:∀ L a w,J L a w→L.size=ops.size→(∀ i,i<ops.size→L.getD i true=true)→Q .normal a w) :
 ∀ fuel L a w,J L a w→L.size=ops.size→L.toList.count false≤fuel→wpAny P .any ops Q fuel L a w:=by
 intro fuel
 induction fuel with
 |zero =>
  intro L a w hJ hs hc
  have hall:∀ i,i<ops.size→L.getD i true=true:=by
   intro i hi
   cases h:L.getD i true with
   |true=>rfl
   |false=>have:=count_set (L:=L) (by omega) h;omega
  refine ⟨?_,hdone L a w hJ hs hall⟩
  cases hr:Region.ready .any ops L with
  |nil=>rfl
  |cons i rs =>
   have hm:i∈Region.ready .any ops L:=by rw [hr];exact List.mem_cons_self
   have:=ready_mem hm
   rw [hall i this.1] at this
   cases this.2.1
 |succ fuel ih =>
  intro L a w hJ hs hc
  refine ⟨fun hr=>hdone L a w hJ hs (all_listed hb hs hr),fun i hi=>?_⟩
  obtain ⟨h1,h2,h3⟩:=ready_mem hi
  have ho:ops[i]? = some ops[i]:=Array.getElem?_eq_getElem h1
  refine wpOp_mono (fun a' w' hJ'=>ih _ a' w' hJ' (by rw [Array.size_setIfInBounds];exact hs) ?_) (hstep L a w i _ hJ hs ho h2 (h3 _ ho))
  have:=count_set (L:=L) (by omega) h2
  omega
theorem region_inv {P:Program} {id:Nat} {ops:Array Oper} {Q:Exit→Act→World→Prop} {a:Act} {w:World} (hm:P.follows .mixedOrders=true) (J:Array Bool→Act→World→Prop) (hb:edgesBack ops=true)
 (h0:J (Array.replicate ops.size false) a w.drew)
 (hstep:∀ L a w i o,J L a w→L.size=ops.size→ops[i]? = some o→L.getD i true=false→(∀ e,e∈o.after.toList→Region.binds .any e=true→L.getD e.on false=true)→wpOp P ops Q i (J (L.setIfInBounds i true)) a w)
 (hdone:∀ L a w,J L a w→L.size=ops.size→(∀ i,i<ops.size→L.getD i true=true)→Q .normal a w):(Code.region id ops true).wp P Q a w :=
 wp_region_any hm (wpAny_inv J hb hstep hdone _ _ _ _ h0 (by simp) (by simp))
def dstAt (ops:Array Oper) (i:Nat):Option Tmp:=(ops[i]?).bind (·.dst)
def dstOwn (ops:Array Oper) (size:Nat):Bool:=(List.range (ops.size-1)).all fun i=>match dstAt ops i with
 |some d=>decide (d<size)&&(List.range (ops.size-1)).all fun j=>decide (i=j) || !decide (dstAt ops j=some d)
 |none=>false
def lastWaits (ops:Array Oper):Bool:=decide (0<ops.size)&&(List.range (ops.size-1)).all fun i=>((ops[ops.size-1]?).map (·.after.any fun e=>decide (e.on=i)&&Region.binds .any e)).getD false
structure Kept0 (ops:Array Oper) (a0 a:Act):Prop where
 defers:a.defers=a0.defers
 size:a.tmps.size=a0.tmps.size
 same:∀ k,(∀ i,i+1<ops.size→dstAt ops i≠some k)→a.tmps.getD k undef=a0.tmps.getD k undef
theorem dst_of {ops:Array Oper} {N i:Nat} (h:dstOwn ops N=true) (hi:i+1<ops.size):∃ d,dstAt ops i=some d∧d<N∧∀ j,j+1<ops.size→i≠j→dstAt ops j≠some d:=by
 unfold dstOwn at h
 rw [List.all_eq_true] at h
 have h1:=h i (List.mem_range.2 (by omega))
 cases hd:dstAt ops i with
 |none=>rw [hd] at h1;cases h1
 |some d =>
  rw [hd] at h1
  simp only [Bool.and_eq_true,decide_eq_true_eq,List.all_eq_true,List.mem_range,Bool.or_eq_true,Bool.not_eq_true',decide_eq_false_iff_not] at h1
  refine ⟨d,rfl,h1.1,fun j hj hne=>?_⟩
  rcases h1.2 j (by omega) with h2|h2
  ·exact absurd h2 hne
  ·exact h2
theorem put_getD (a:Act) (d k:Nat) (v:Value) (hd:d<a.tmps.size):(a.put (some d) v).tmps.getD k undef=if k=d then v else a.tmps.getD k undef:=by
 show (a.tmps.setIfInBounds d v).getD k undef=_
 rw [Array.getD_eq_getD_getElem?,Array.getD_eq_getD_getElem?,Array.getElem?_setIfInBounds]
 by_cases h:d=k
 ·subst h;simp [hd]
 ·rw [if_neg h,if_neg (fun e=>h e.symm)]
theorem listed_set {L:Array Bool} {i k:Nat} (hi:i<L.size):(L.setIfInBounds i true).getD k false=if k=i then true else L.getD k false:=by
 rw [Array.getD_eq_getD_getElem?,Array.getD_eq_getD_getElem?,Array.getElem?_setIfInBounds]
 by_cases h:i=k
 ·subst h;simp [hi]
 ·rw [if_neg h,if_neg (fun e=>h e.symm)]
def notDst (ops:Array Oper) (k:Nat):Bool:=(List.range (ops.size-1)).all fun i => !decide (dstAt ops i=some k)
theorem Kept0.slot {ops:Array Oper} {a0 a:Act} (h:Kept0 ops a0 a) (k:Nat) (hk:notDst ops k=true):a.tmps.getD k undef=a0.tmps.getD k undef:=by
 refine h.same k fun i hi e=>?_
 unfold notDst at hk
 rw [List.all_eq_true] at hk
 have:=hk i (List.mem_range.2 (by omega))
 rw [e] at this
 simp at this
theorem region_draws {P:Program} {id:Nat} {ops:Array Oper} {Q:Exit→Act→World→Prop} {a0:Act} {w0:World} (hm:P.follows .mixedOrders=true) (hb:edgesBack ops=true) (hlast:lastWaits ops=true) (hdst:dstOwn ops a0.tmps.size=true)
 (I:World→Prop) (R:World→World→Prop) (Pr:Nat→World→Value→Prop) (hR:∀ i w w' v,Pr i w v→R w w'→Pr i w' v) (h0:I w0.drew)
 (hstep:∀ i o,i+1<ops.size→ops[i]? = some o→∀ a w,Kept0 ops a0 a→I w→(∀ e d,e∈o.after.toList→Region.binds .any e=true→dstAt ops e.on=some d→Pr e.on w (a.tmps.getD d undef))→o.guard=none∧o.wp P a w (fun a' w'=>∃ v,a'=a.put o.dst v∧R w w'∧I w'∧Pr i w' v) Q)
 (hend:∀ o,ops[ops.size-1]? = some o→∀ a w,Kept0 ops a0 a→I w→(∀ i d,i+1<ops.size→dstAt ops i=some d→Pr i w (a.tmps.getD d undef))→o.guard=none∧o.wp P a w (fun a' w'=>Q .normal a' w') Q) :
 (Code.region id ops true).wp P Q a0 w0:=by
 unfold lastWaits at hlast
 rw [Bool.and_eq_true,decide_eq_true_eq] at hlast
 obtain ⟨hpos,hlast⟩:=hlast
 have run:∀ {i:Nat} {o:Oper} {a:Act} {w:World} {K:Act→World→Prop},ops[i]? = some o→o.guard=none→o.wp P a w K Q→wpOp P ops Q i K a w:=by
  intro i o a w K ho hg h
  refine wpOp_step ho fun K' hK=>?_
  rw [if_pos (by simp [Region.wanted,hg])]
  exact Oper.wp_mono hK h
 refine region_inv hm (fun L a w=>((∀ k,k<ops.size→L.getD k true=true)∧Q .normal a w) ∨
  (L.getD (ops.size-1) false=false∧Kept0 ops a0 a∧I w∧∀ i d,i+1<ops.size→L.getD i false=true→dstAt ops i=some d→Pr i w (a.tmps.getD d undef))) hb (.inr ⟨?_,⟨rfl,rfl,fun _ _=>rfl⟩,h0,?_⟩) ?_ ?_
 ·simp [Array.getD]
 ·intro i d hi hl
  simp [Array.getD] at hl
 ·rintro L a w i o (⟨hall,_⟩|⟨hl,hk,hI,hp⟩) hs ho hi hd
  ·have hlt:i<ops.size:=(Array.getElem?_eq_some_iff.1 ho).1
   rw [hall i hlt] at hi
   cases hi
  ·have hlt:i<ops.size:=(Array.getElem?_eq_some_iff.1 ho).1
   by_cases hn:i+1<ops.size
   ·obtain ⟨hg,hwp⟩:=hstep i o hn ho a w hk hI (fun e d he hbi hde=>by
     have hon:e.on+1<ops.size:=by
      unfold edgesBack at hb
      rw [List.all_eq_true] at hb
      have h2:=hb i (List.mem_range.2 hlt)
      rw [ho] at h2
      simp only [Option.map_some,Option.getD_some,Array.all_eq_true',decide_eq_true_eq] at h2
      have:=h2 e (Array.mem_def.2 he)
      omega
     exact hp e.on d hon (hd e he hbi) hde)
    refine run ho hg (Oper.wp_mono ?_ hwp)
    rintro a' w' ⟨v,rfl,hr,hI',hv⟩
    obtain ⟨d,hd1,hd2,hd3⟩:=dst_of hdst hn
    have hod:o.dst=some d:=by unfold dstAt at hd1;rw [ho] at hd1;exact hd1
    rw [hod]
    refine .inr ⟨?_,⟨hk.defers,?_,?_⟩,hI',?_⟩
    ·rw [listed_set (by omega),if_neg (by omega)];exact hl
    ·show (a.tmps.setIfInBounds d v).size=_
     rw [Array.size_setIfInBounds];exact hk.size
    ·intro k hk2
     rw [put_getD _ _ _ _ (by rw [hk.size];exact hd2),if_neg (fun e=>hk2 i hn (by rw [e];exact hd1))]
     exact hk.same k hk2
    ·intro j dj hj hlj hdj
     rw [put_getD _ _ _ _ (by rw [hk.size];exact hd2)]
     rw [listed_set (by omega)] at hlj
     by_cases hij:j=i
     ·subst hij
      rw [hd1] at hdj
      cases hdj
      rw [if_pos rfl]
      exact hv
     ·rw [if_neg hij] at hlj
      rw [if_neg (fun e=>hd3 j hj (fun e2=>hij e2.symm) (by rw [hdj,e]))]
      exact hR j w w' _ (hp j dj hj hlj hdj) hr
   ·have hi':i=ops.size-1:=by omega
    subst hi'
    have hothers:∀ k,k+1<ops.size→L.getD k false=true:=by
     intro k hk2
     rw [List.all_eq_true] at hlast
     have h2:=hlast k (List.mem_range.2 (by omega))
     rw [ho] at h2
     simp only [Option.map_some,Option.getD_some,Array.any_eq_true',Bool.and_eq_true,decide_eq_true_eq] at h2
     obtain ⟨e,he,hek,hbi⟩:=h2
     rw [← hek]
     exact hd e (Array.mem_def.1 he) hbi
    obtain ⟨hg,hwp⟩:=hend o ho a w hk hI (fun j d hj hdj=>hp j d hj (hothers j hj) hdj)
    refine run ho hg (Oper.wp_mono ?_ hwp)
    intro a' w' hq
    refine .inl ⟨fun k hk2=>?_,hq⟩
    rw [getD_eq (by rw [Array.size_setIfInBounds];omega),← getD_eq (by rw [Array.size_setIfInBounds];omega) false,listed_set (by omega)]
    by_cases e:k=ops.size-1
    ·rw [if_pos e]
    ·rw [if_neg e];exact hothers k (by omega)
 ·rintro L a w (⟨_,hq⟩|⟨hl,_⟩) hs hall
  ·exact hq
  ·have:=hall (ops.size-1) (by omega)
   rw [getD_eq (by omega)] at hl this
   rw [this] at hl
   cases hl
def waits (ops:Array Oper) (j:Nat):List Nat:=((ops[j]?).map fun o=>(o.after.toList.filter fun e=>Region.binds .any e).map (·.on)).getD []
def reachN (ops:Array Oper):Nat→Nat→Nat→Bool
 |0,_,_=>false
 |n+1,i,j=>(waits ops j).any fun k=>decide (k=i)||reachN ops n i k
def reaches (ops:Array Oper) (i j:Nat):Bool:=reachN ops ops.size i j
def ClosedL (ops:Array Oper) (L:Array Bool):Prop:=∀ j k,L.getD j false=true→k∈waits ops j→L.getD k false=true
theorem reachN_listed {ops:Array Oper} {L:Array Bool} (hc:ClosedL ops L):∀ n i j,L.getD j false=true→reachN ops n i j=true→L.getD i false=true:=by
 intro n
 induction n with
 |zero=>intro i j _ h;cases h
 |succ n ih =>
  intro i j hj h
  unfold reachN at h
  rw [List.any_eq_true] at h
  obtain ⟨k,hk,h⟩:=h
  rw [Bool.or_eq_true,decide_eq_true_iff] at h
  have hkl:=hc j k hj hk
  rcases h with rfl|h
  ·exact hkl
  ·exact ih i k hkl h
theorem reachN_ready {ops:Array Oper} {L:Array Bool} (hc:ClosedL ops L) {i:Nat} (hr:∀ k,k∈waits ops i→L.getD k false=true):∀ n u,reachN ops n u i=true→L.getD u false=true:=by
 intro n u h
 cases n with
 |zero=>cases h
 |succ n =>
  unfold reachN at h
  rw [List.any_eq_true] at h
  obtain ⟨k,hk,h⟩:=h
  rw [Bool.or_eq_true,decide_eq_true_iff] at h
  have hkl:=hr k hk
  rcases h with rfl|h
  ·exact hkl
  ·exact reachN_listed hc n u k hkl h
structure KeptA (ops:Array Oper) (a0 a:Act):Prop where
 defers:a.defers=a0.defers
 size:a.tmps.size=a0.tmps.size
 same:∀ k,(∀ i,i<ops.size→dstAt ops i≠some k)→a.tmps.getD k undef=a0.tmps.getD k undef
def notDstA (ops:Array Oper) (k:Nat):Bool:=(List.range ops.size).all fun i => !decide (dstAt ops i=some k)
theorem KeptA.slot {ops:Array Oper} {a0 a:Act} (h:KeptA ops a0 a) (k:Nat) (hk:notDstA ops k=true):a.tmps.getD k undef=a0.tmps.getD k undef:=by
 refine h.same k fun i hi e=>?_
 unfold notDstA at hk
 rw [List.all_eq_true] at hk
 have:=hk i (List.mem_range.2 hi)
 rw [e] at this
 simp at this
def pickS:List Bool→List Value→(Nat→Value)→Nat→List Value
 |true :: ds,t :: ts,f,i=>t :: pickS ds ts f (i+1)
 |false :: ds,_ :: ts,f,i=>f i :: pickS ds ts f (i+1)
 |_,_,_,_=>[]
theorem pickS_len:∀ (ds:List Bool) (ts:List Value) (f:Nat→Value) (i:Nat),ds.length=ts.length→(pickS ds ts f i).length=ts.length
 |[],[],_,_,_=>rfl
 |true :: ds,t :: ts,f,i,h=>by
  have:=pickS_len ds ts f (i+1) (by simpa using h)
  simp [pickS,this]
 |false :: ds,t :: ts,f,i,h=>by
  have:=pickS_len ds ts f (i+1) (by simpa using h)
  simp [pickS,this]
 |[],_ :: _,_,_,h=>by simp at h
 |_ :: _,[],_,_,h=>by simp at h
theorem pickS_get:∀ (ds:List Bool) (ts:List Value) (f:Nat→Value) (i j:Nat),ds.length=ts.length→j<ts.length→(pickS ds ts f i)[j]? = if ds[j]? = some true then ts[j]? else some (f (i+j))
 |[],[],_,_,_,_,h=>by simp at h
 |true :: ds,t :: ts,f,i,0,_,_=>by simp [pickS]
 |false :: ds,t :: ts,f,i,0,_,_=>by simp [pickS]
 |true :: ds,t :: ts,f,i,j+1,h,hj=>by
  have:=pickS_get ds ts f (i+1) j (by simpa using h) (by simpa using hj)
  simp only [pickS,List.getElem?_cons_succ,this,show i+1+j=i+(j+1) by omega]
 |false :: ds,t :: ts,f,i,j+1,h,hj=>by
  have:=pickS_get ds ts f (i+1) j (by simpa using h) (by simpa using hj)
  simp only [pickS,List.getElem?_cons_succ,this,show i+1+j=i+(j+1) by omega]
 |[],_ :: _,_,_,_,h,_=>by simp at h
 |_ :: _,[],_,_,_,h,_=>by simp at h
theorem KeptA.pick {ops:Array Oper} {a0 a:Act} (h:KeptA ops a0 a) (ds:List Bool) (hd:(List.range a0.tmps.size).map (notDstA ops)=ds) :
 a={ tmps:=(pickS ds a0.tmps.toList (fun k=>a.tmps.getD k undef) 0).toArray,defers:=a0.defers }:=by
 obtain ⟨t,d⟩:=a
 have hdf:d=a0.defers:=h.defers
 have hs:t.size=a0.tmps.size:=h.size
 subst hdf
 have hl:ds.length=a0.tmps.toList.length:=by rw [← hd];simp
 congr 1
 apply Array.ext'
 apply List.ext_getElem?
 intro j
 by_cases hj:j<a0.tmps.size
 ·rw [List.toList_toArray,pickS_get ds _ _ 0 j hl (by simpa using hj),← hd]
  have e1:((List.range a0.tmps.size).map (notDstA ops))[j]? = some (notDstA ops j):=by simp [hj]
  rw [e1]
  by_cases hn:notDstA ops j=true
  ·rw [if_pos (by rw [hn])]
   have:=h.slot j hn
   simp only [Array.getElem?_toList]
   have e2:t[j]? = some (t.getD j undef):=by simp [Array.getD,show j<t.size by omega]
   have e3:a0.tmps[j]? = some (a0.tmps.getD j undef):=by simp [Array.getD,hj]
   rw [e2,e3]
   exact congrArg some this
  ·rw [if_neg (by intro e;exact hn (by simpa using e))]
   simp only [Array.getElem?_toList,Nat.zero_add]
   simp [Array.getD,show j<t.size by omega]
 ·rw [List.getElem?_eq_none (by simp;omega),List.getElem?_eq_none (by rw [List.toList_toArray,pickS_len _ _ _ _ hl];simp;omega)]
theorem wno {ops:Array Oper} {o:Oper} {a:Act} (hg:o.guard=none):Region.wanted o (yielded ops a.tmps)=true:=by simp [Region.wanted,hg]
def edgesBackB (ops:Array Oper):Bool:=(List.range ops.size).all fun i=>((ops[i]?).map (·.after.all fun e => !Region.binds .any e||decide (e.on<i))).getD true
theorem all_listedB {ops:Array Oper} {L:Array Bool} (hb:edgesBackB ops=true) (hs:L.size=ops.size) (hr:Region.ready .any ops L=[]):∀ i,i<ops.size→L.getD i true=true:=by
 intro i
 induction i using Nat.strongRecOn with
 |_ i ih =>
  intro hi
  cases hl:L.getD i true with
  |true=>rfl
  |false =>
   have:i∈Region.ready .any ops L:=by
    unfold Region.ready
    rw [List.mem_filter,List.mem_range,Bool.and_eq_true,Bool.not_eq_true']
    refine ⟨hi,hl,?_⟩
    rw [Array.getElem?_eq_getElem hi]
    simp only [Option.map_some,Option.getD_some,Array.all_eq_true',Bool.or_eq_true,Bool.not_eq_true']
    intro e he
    cases hbi:Region.binds .any e with
    |false=>left;rfl
    |true =>
    right
    unfold edgesBackB at hb
    rw [List.all_eq_true] at hb
    have h2:=hb i (List.mem_range.2 hi)
    rw [Array.getElem?_eq_getElem hi] at h2
    simp only [Option.map_some,Option.getD_some,Array.all_eq_true',Bool.or_eq_true,Bool.not_eq_true',decide_eq_true_eq] at h2
    have h3:e.on<i:=by
     rcases h2 e he with h2|h2
     ·rw [hbi] at h2;cases h2
     ·exact h2
    have h4:=ih e.on h3 (by omega)
    rw [getD_eq (by omega)] at h4 ⊢
    exact h4
   rw [hr] at this
   cases this
theorem wpAny_invB {P:Program} {ops:Array Oper} {Q:Exit→Act→World→Prop} (J:Array Bool→Act→World→Prop) (hb:edgesBackB ops=true)
 (hstep:∀ L a w i o,J L a w→L.size=ops.size→ops[i]? = some o→L.getD i true=false→(∀ e,e∈o.after.toList→Region.binds .any e=true→L.getD e.on false=true)→wpOp P ops Q i (J (L.setIfInBounds i true)) a w)
 (hdone:∀ L a w,J L a w→L.size=ops.size→(∀ i,i<ops.size→L.getD i true=true)→Q .normal a w) :
 ∀ fuel L a w,J L a w→L.size=ops.size→L.toList.count false≤fuel→wpAny P .any ops Q fuel L a w:=by
 intro fuel
 induction fuel with
 |zero =>
  intro L a w hJ hs hc
  have hall:∀ i,i<ops.size→L.getD i true=true:=by
   intro i hi
   cases h:L.getD i true with
   |true=>rfl
   |false=>have:=count_set (L:=L) (by omega) h;omega
  refine ⟨?_,hdone L a w hJ hs hall⟩
  cases hr:Region.ready .any ops L with
  |nil=>rfl
  |cons i rs =>
   have hm:i∈Region.ready .any ops L:=by rw [hr];exact List.mem_cons_self
   have:=ready_mem hm
   rw [hall i this.1] at this
   cases this.2.1
 |succ fuel ih =>
  intro L a w hJ hs hc
  refine ⟨fun hr=>hdone L a w hJ hs (all_listedB hb hs hr),fun i hi=>?_⟩
  obtain ⟨h1,h2,h3⟩:=ready_mem hi
  have ho:ops[i]? = some ops[i]:=Array.getElem?_eq_getElem h1
  refine wpOp_mono (fun a' w' hJ'=>ih _ a' w' hJ' (by rw [Array.size_setIfInBounds];exact hs) ?_) (hstep L a w i _ hJ hs ho h2 (h3 _ ho))
  have:=count_set (L:=L) (by omega) h2
  omega
theorem region_invB {P:Program} {id:Nat} {ops:Array Oper} {Q:Exit→Act→World→Prop} {a:Act} {w:World} (hm:P.follows .mixedOrders=true) (J:Array Bool→Act→World→Prop) (hb:edgesBackB ops=true)
 (h0:J (Array.replicate ops.size false) a w.drew)
 (hstep:∀ L a w i o,J L a w→L.size=ops.size→ops[i]? = some o→L.getD i true=false→(∀ e,e∈o.after.toList→Region.binds .any e=true→L.getD e.on false=true)→wpOp P ops Q i (J (L.setIfInBounds i true)) a w)
 (hdone:∀ L a w,J L a w→L.size=ops.size→(∀ i,i<ops.size→L.getD i true=true)→Q .normal a w):(Code.region id ops true).wp P Q a w :=
 wp_region_any hm (wpAny_invB J hb hstep hdone _ _ _ _ h0 (by simp) (by simp))
def valAt (ops:Array Oper) (a:Act) (i:Nat):Value:=match dstAt ops i with
 |some d=>a.tmps.getD d undef
 |none=>undef
def dstSome (ops:Array Oper) (size:Nat):Bool:=(List.range ops.size).all fun i=>match dstAt ops i with
 |some d=>decide (d<size)&&(List.range ops.size).all fun j=>decide (i=j) || !decide (dstAt ops j=some d)
 |none=>true
theorem dst_some {ops:Array Oper} {N i d:Nat} (h:dstSome ops N=true) (hi:i<ops.size) (hd:dstAt ops i=some d):d<N∧∀ j,j<ops.size→i≠j→dstAt ops j≠some d:=by
 unfold dstSome at h
 rw [List.all_eq_true] at h
 have h1:=h i (List.mem_range.2 (by omega))
 rw [hd] at h1
 simp only [Bool.and_eq_true,decide_eq_true_eq,List.all_eq_true,List.mem_range,Bool.or_eq_true,Bool.not_eq_true',decide_eq_false_iff_not] at h1
 refine ⟨h1.1,fun j hj hne=>?_⟩
 rcases h1.2 j (by omega) with h2|h2
 ·exact absurd h2 hne
 ·exact h2
theorem op_allocZ {P:Program} {o:Oper} {a:Act} {w:World} {K:Act→World→Prop} {Q:Exit→Act→World→Prop} {t:TypeId} {z:Value} (ho:o.op = .alloc t) (hz:(P.info? t).map (·.zero)=some (some z)) (h:K (a.put o.dst (.pointer (some ⟨w.heap.size,0,none⟩))) (w.alloc (.cells z.cells t))):o.wp P a w K Q:=by
 obtain ⟨i,hi,hz⟩:=Option.map_eq_some_iff.1 hz
 unfold Oper.wp
 simp [go_sem,ho,hi,hz,zeroValue,typeInfo]
 exact h
theorem op_assignZ {P:Program} {o:Oper} {a:Act} {w:World} {K:Act→World→Prop} {Q:Exit→Act→World→Prop} (t:Tmp) (ho:o.op = .assign (.tmp t)) (h:K (a.put o.dst (a.tmps.getD t undef)) w):o.wp P a w K Q:=by
 unfold Oper.wp
 simp [execOp,ho,Act.eval,Oper.upon]
 simpa using h
theorem op_callR {P:Program} {o:Oper} {a:Act} {w:World} {K:Act→World→Prop} {Q:Exit→Act→World→Prop} {f:FuncId} {args:Array Value} (hrun:(execOp a.eval o).run P w = .ok (.enter f args) w) {post:Ending→World→Prop} (hc:Calls P f args w post)
 (h:∀ e w',post e w'→∃ v,e = .returned v∧K (a.put o.dst v) w'):o.wp P a w K Q:=by
 unfold Oper.wp
 rw [hrun,Oper.upon_enter]
 refine hc.mono fun e w'' hh=>?_
 obtain ⟨v,rfl,hk⟩:=h e w'' hh
 exact hk
theorem region_lists {G:Type} {P:Program} {id:Nat} {ops:Array Oper} {Q:Exit→Act→World→Prop} {a0:Act} {w0:World} (hm:P.follows .mixedOrders=true) (hb:edgesBackB ops=true) (hdst:dstSome ops a0.tmps.size=true)
 (use:Nat→Nat) (I:(Nat→Bool)→G→World→Prop) (R:Nat→G→World→G→World→Prop) (Pr:Nat→G→World→Value→Prop)
 (hR:∀ i j y y' w w' v,i<ops.size→j<ops.size→i≠j→use j≠i→reaches ops i j=false→reaches ops (use j) i=false→Pr j y w v→R i y w y' w'→Pr j y' w' v) (y0:G) (h0:I (fun _=>false) y0 w0.drew)
 (hstep:∀ i o,i<ops.size→ops[i]? = some o→∀ L a y w,L i=false→(∀ k,k∈waits ops i→L k=true)→(∀ k,reaches ops i k=true→L k=false)→KeptA ops a0 a→I L y w→(∀ j,j∈waits ops i→use j=i∨ops.size≤use j→Pr j y w (valAt ops a j))→Region.wanted o (yielded ops a.tmps)=true∧o.wp P a w (fun a' w'=>∃ v y',a'=a.put o.dst v∧R i y w y' w'∧I (fun k=>if k=i then true else L k) y' w'∧∀ u,(o.dst≠none→u=v)→Pr i y' w' u) Q)
 (hend:∀ L a y w,(∀ i,i<ops.size→L i=true)→KeptA ops a0 a→I L y w→(∀ i,i<ops.size→ops.size≤use i→Pr i y w (valAt ops a i))→Q .normal a w) :
 (Code.region id ops true).wp P Q a0 w0:=by
 have nolist:∀ {L:Array Bool} {k:Nat},L.size=ops.size→ops.size≤k→L.getD k false=false:=by
  intro L k hs hk
  simp [Array.getD,show ¬ k<L.size by omega]
 have llt:∀ {L:Array Bool} {k:Nat},L.size=ops.size→L.getD k false=true→k<ops.size:=by
  intro L k hs hk
  apply Classical.byContradiction
  intro hn
  rw [nolist hs (by omega)] at hk
  cases hk
 refine region_invB hm (fun L a w=>∃ y,L.size=ops.size∧ClosedL ops L∧KeptA ops a0 a∧I (fun k=>L.getD k false) y w∧∀ i,L.getD i false=true→L.getD (use i) false=false→Pr i y w (valAt ops a i)) hb ⟨y0,by simp,?_,⟨rfl,rfl,fun _ _=>rfl⟩,?_,?_⟩ ?_ ?_
 ·intro j k hj
  simp [Array.getD] at hj
 ·have e:(fun k=>(Array.replicate ops.size false).getD k false)=fun _=>false:=by
   funext k
   by_cases hk:k<ops.size<;>simp [Array.getD,hk]
  rw [e]
  exact h0
 ·intro i hi
  simp [Array.getD] at hi
 ·rintro L a w i o ⟨y,_,hc,hk,hI,hp⟩ hs ho hi hd
  have hlt:i<ops.size:=(Array.getElem?_eq_some_iff.1 ho).1
  have hif:L.getD i false=false:=by rw [getD_eq (by omega)] at hi ⊢;exact hi
  have hw:∀ k,k∈waits ops i→L.getD k false=true:=by
   intro k hk2
   unfold waits at hk2
   rw [ho] at hk2
   simp only [Option.map_some,Option.getD_some,List.mem_map,List.mem_filter] at hk2
   obtain ⟨e,⟨he,hbi⟩,rfl⟩:=hk2
   exact hd e he hbi
  obtain ⟨hg,hwp⟩:=hstep i o hlt ho (fun k=>L.getD k false) a y w hif hw (fun k hr=>by
   cases hlk:L.getD k false with
   |false=>rfl
   |true=>rw [reachN_listed hc _ i k hlk hr] at hif;cases hif) hk hI (fun j hj hu=>hp j (hw j hj) (by
   rcases hu with hu|hu
   ·rw [hu];exact hif
   ·exact nolist hs hu))
  refine wpOp_step ho fun K' hK=>?_
  rw [if_pos hg]
  refine Oper.wp_mono hK (Oper.wp_mono ?_ hwp)
  rintro a' w' ⟨v,y',rfl,hr,hI',hv⟩
  have hoi:dstAt ops i=o.dst:=by unfold dstAt;rw [ho];rfl
  have closed:ClosedL ops (L.setIfInBounds i true):=by
   intro j k hj hk2
   rw [listed_set (by omega)] at hj ⊢
   by_cases hki:k=i
   ·rw [if_pos hki]
   rw [if_neg hki]
   by_cases hji:j=i
   ·subst hji;exact hw k hk2
   ·rw [if_neg hji] at hj
    exact hc j k hj hk2
  have kept:KeptA ops a0 (a.put o.dst v):=by
   cases hod:o.dst with
   |none=>exact hk
   |some d =>
    have hd1:dstAt ops i=some d:=hoi.trans hod
    have hd2:=(dst_some hdst hlt hd1).1
    refine ⟨hk.defers,?_,fun k hk2=>?_⟩
    ·show (a.tmps.setIfInBounds d v).size=_
     rw [Array.size_setIfInBounds];exact hk.size
    ·rw [put_getD _ _ _ _ (by rw [hk.size];exact hd2),if_neg (fun e=>hk2 i hlt (by rw [e];exact hd1))]
     exact hk.same k hk2
  have old:∀ j,j<ops.size→j≠i→valAt ops (a.put o.dst v) j=valAt ops a j:=by
   intro j hj hne
   unfold valAt
   cases hod:o.dst with
   |none=>rfl
   |some d =>
    have hd1:dstAt ops i=some d:=hoi.trans hod
    obtain ⟨hd2,hd3⟩:=dst_some hdst hlt hd1
    cases hdj:dstAt ops j with
    |none=>rfl
    |some dj =>
     show (a.put (some d) v).tmps.getD dj undef=a.tmps.getD dj undef
     rw [put_getD _ _ _ _ (by rw [hk.size];exact hd2),if_neg (fun e=>hd3 j hj (fun e2=>hne e2.symm) (by rw [hdj,e]))]
  have eL:(fun k=>(L.setIfInBounds i true).getD k false)=fun k=>if k=i then true else L.getD k false:=by
   funext k
   exact listed_set (by omega)
  refine ⟨y',by rw [Array.size_setIfInBounds];exact hs,closed,kept,by rw [eL];exact hI',?_⟩
  intro j hlj huj
  rw [listed_set (by omega)] at hlj huj
  by_cases hij:j=i
  ·subst hij
   refine hv _ fun hne=>?_
   unfold valAt
   rw [hoi]
   cases hod:o.dst with
   |none=>exact absurd hod hne
   |some d =>
    have hd1:dstAt ops j=some d:=hoi.trans hod
    show (a.put (some d) v).tmps.getD d undef=v
    rw [put_getD _ _ _ _ (by rw [hk.size];exact (dst_some hdst hlt hd1).1),if_pos rfl]
  ·rw [if_neg hij] at hlj
   have hjl:=llt hs hlj
   have hui:use j≠i:=by
    intro e
    rw [if_pos e] at huj
    cases huj
   rw [if_neg hui] at huj
   rw [old j hjl hij]
   refine hR i j y y' w w' _ hlt hjl (fun e=>hij e.symm) hui ?_ ?_ (hp j hlj huj) hr
   ·cases hre:reaches ops i j with
    |false=>rfl
    |true=>rw [reachN_listed hc _ i j hlj hre] at hif;cases hif
   ·cases hre:reaches ops (use j) i with
    |false=>rfl
    |true=>rw [reachN_ready hc hw _ _ hre] at huj;cases huj
 ·rintro L a w ⟨y,_,_,hk,hI,hp⟩ hs hall
  have all:∀ i,i<ops.size→L.getD i false=true:=by
   intro i hi
   have:=hall i hi
   rw [getD_eq (by rw [hs];exact hi)] at this ⊢
   exact this
  exact hend (fun k=>L.getD k false) a y w all hk hI fun i hi hu=>hp i (all i hi) (nolist hs hu)
end Go.Proofs.YtgebghkcikmfaaaGreatDoor
