import Derived.Laws.CopyRow
import Derived.Laws.IdiomCopy
import Derived.Test.YtmfabeghfdoibaaGreatQT20IzBlk
import Derived.Test.YtmfabeghfdoibaaGreatQT16IzGrow
import Derived.Test.YtmfabeghfdoibaaGreatQT7NumIn
import Derived.Test.YtmfabeghfdoibaaGreatQT21StepRow
import Derived.Laws.ResultCell
import Derived.Laws.CopyOwn
set_option maxHeartbeats 6400000
set_option maxRecDepth 100000
namespace Go.Proofs.YtmfabeghfdoibaaGreat
open Go.RowKit
def edgesBack (ops:Array Oper):Bool:=(List.range ops.size).all fun i=>((ops[i]?).map (·.after.all fun e=>decide (e.on<i))).getD true
theorem getD_eq {L:Array Bool} {i:Nat} (h:i<L.size) (d:Bool):L.getD i d=L[i]:=by simp [Array.getD,h]
theorem ready_mem {ops:Array Oper} {L:Array Bool} {i:Nat} (h:i∈Region.ready .any ops L) :
 i<ops.size∧L.getD i true=false∧∀ o,ops[i]? = some o→∀ e,e∈o.after.toList→Region.binds .any e=true→L.getD e.on false=true:=by
 unfold Region.ready at h
 rw [List.mem_filter,List.mem_range,Bool.and_eq_true,Bool.not_eq_true'] at h
 obtain ⟨h1,h2,h3⟩:=h
 refine ⟨h1,h2,fun o ho e he hb=>?_⟩
 rw [ho] at h3
 simp only [Option.map_some,Option.getD_some,Array.all_eq_true',Bool.or_eq_true,Bool.not_eq_true'] at h3
 rcases h3 e (Array.mem_def.2 he) with h4|h4
 ·rw [hb] at h4;cases h4
 ·exact h4
theorem all_listed {ops:Array Oper} {L:Array Bool} (hb:edgesBack ops=true) (hs:L.size=ops.size) (hr:Region.ready .any ops L=[]):∀ i,i<ops.size→L.getD i true=true:=by
 intro i
 induction i using Nat.strongRecOn with
 |_ i ih =>
  intro hi
  cases hl:L.getD i true with
  |true=>rfl
  |false =>
   have:i∈Region.ready .any ops L:=by
    unfold Region.ready
    rw [List.mem_filter,List.mem_range,Bool.and_eq_true,Bool.not_eq_true']
    refine ⟨hi,hl,?_⟩
    rw [Array.getElem?_eq_getElem hi]
    simp only [Option.map_some,Option.getD_some,Array.all_eq_true',Bool.or_eq_true,Bool.not_eq_true']
    intro e he
    right
    unfold edgesBack at hb
    rw [List.all_eq_true] at hb
    have h2:=hb i (List.mem_range.2 hi)
    rw [Array.getElem?_eq_getElem hi] at h2
    simp only [Option.map_some,Option.getD_some,Array.all_eq_true',decide_eq_true_eq] at h2
    have h3:=h2 e he
    have h4:=ih e.on h3 (by omega)
    rw [getD_eq (by omega)] at h4 ⊢
    exact h4
   rw [hr] at this
   cases this
theorem count_set {L:Array Bool} {i:Nat} (hi:i<L.size) (h:L.getD i true=false):(L.setIfInBounds i true).toList.count false+1=L.toList.count false:=by
 rw [getD_eq hi] at h
 rw [Array.toList_setIfInBounds,List.count_set (by simpa using hi)]
 have h2:L.toList[i]'(by simpa using hi)=false:=by simpa using h
 have h3:0<L.toList.count false:=List.count_pos_iff.2 (by rw [← h2];exact List.getElem_mem _)
 rw [h2]
 have e1:(if (false==false)=true then 1 else 0)=1:=rfl
 have e2:(if (true==false)=true then 1 else 0)=0:=rfl
 rw [e1,e2]
 omega
theorem wpAny_inv {P:Program} {ops:Array Oper} {Q:Exit→Act→World→Prop} (J:Array Bool→Act→World→Prop) (hb:edgesBack ops=true)
 (hstep:∀ L a w i o,J L a w→L.size=ops.size→ops[i]? = some o→L.getD i true=false→(∀ e,e∈o.after.toList→Region.binds .any e=true→L.getD e.on false=true)→wpOp P ops Q i (J (L.setIfInBounds i true)) a w)
 (hdone:∀ L a w,J L a w→L.size=ops.size→(∀ i,i<ops.size→L.getD i true=true)→Q .normal a w) :
 ∀ fuel L a w,J L a w→L.size=ops.size→L.toList.count false≤fuel→wpAny P .any ops Q fuel L a w:=by
 intro fuel
 induction fuel with
 |zero =>
  intro L a w hJ hs hc
  have hall:∀ i,i<ops.size→L.getD i true=true:=by
   intro i hi
   cases h:L.getD i true with
   |true=>rfl
   |false=>have:=count_set (L:=L) (by omega) h;omega
  refine ⟨?_,hdone L a w hJ hs hall⟩
  cases hr:Region.ready .any ops L with
  |nil=>rfl
  |cons i rs =>
   have hm:i∈Region.ready .any ops L:=by rw [hr];exact List.mem_cons_self
   have:=ready_mem hm
   rw [hall i this.1] at this
   cases this.2.1
 |succ fuel ih =>
  intro L a w hJ hs hc
  refine ⟨fun hr=>hdone L a w hJ hs (all_listed hb hs hr),fun i hi=>?_⟩
  obtain ⟨h1,h2,h3⟩:=ready_mem hi
  have ho:ops[i]? = some ops[i]:=Array.getElem?_eq_getElem h1
  refine wpOp_mono (fun a' w' hJ'=>ih _ a' w' hJ' (by rw [Array.size_setIfInBounds];exact hs) ?_) (hstep L a w i _ hJ hs ho h2 (h3 _ ho))
  have:=count_set (L:=L) (by omega) h2
  omega
theorem region_inv {P:Program} {id:Nat} {ops:Array Oper} {Q:Exit→Act→World→Prop} {a:Act} {w:World} (hm:P.follows .mixedOrders=true) (J:Array Bool→Act→World→Prop) (hb:edgesBack ops=true)
 (h0:J (Array.replicate ops.size false) a w.drew)
 (hstep:∀ L a w i o,J L a w→L.size=ops.size→ops[i]? = some o→L.getD i true=false→(∀ e,e∈o.after.toList→Region.binds .any e=true→L.getD e.on false=true)→wpOp P ops Q i (J (L.setIfInBounds i true)) a w)
 (hdone:∀ L a w,J L a w→L.size=ops.size→(∀ i,i<ops.size→L.getD i true=true)→Q .normal a w):(Code.region id ops true).wp P Q a w :=
 wp_region_any hm (wpAny_inv J hb hstep hdone _ _ _ _ h0 (by simp) (by simp))
def dstAt (ops:Array Oper) (i:Nat):Option Tmp:=(ops[i]?).bind (·.dst)
def dstOwn (ops:Array Oper) (size:Nat):Bool:=(List.range (ops.size-1)).all fun i=>match dstAt ops i with
 |some d=>decide (d<size)&&(List.range (ops.size-1)).all fun j=>decide (i=j) || !decide (dstAt ops j=some d)
 |none=>false
def lastWaits (ops:Array Oper):Bool:=decide (0<ops.size)&&(List.range (ops.size-1)).all fun i=>((ops[ops.size-1]?).map (·.after.any fun e=>decide (e.on=i)&&Region.binds .any e)).getD false
structure Kept0 (ops:Array Oper) (a0 a:Act):Prop where
 defers:a.defers=a0.defers
 size:a.tmps.size=a0.tmps.size
 same:∀ k,(∀ i,i+1<ops.size→dstAt ops i≠some k)→a.tmps.getD k undef=a0.tmps.getD k undef
theorem dst_of {ops:Array Oper} {N i:Nat} (h:dstOwn ops N=true) (hi:i+1<ops.size):∃ d,dstAt ops i=some d∧d<N∧∀ j,j+1<ops.size→i≠j→dstAt ops j≠some d:=by
 unfold dstOwn at h
 rw [List.all_eq_true] at h
 have h1:=h i (List.mem_range.2 (by omega))
 cases hd:dstAt ops i with
 |none=>rw [hd] at h1;cases h1
 |some d =>
  rw [hd] at h1
  simp only [Bool.and_eq_true,decide_eq_true_eq,List.all_eq_true,List.mem_range,Bool.or_eq_true,Bool.not_eq_true',decide_eq_false_iff_not] at h1
  refine ⟨d,rfl,h1.1,fun j hj hne=>?_⟩
  rcases h1.2 j (by omega) with h2|h2
  ·exact absurd h2 hne
  ·exact h2
theorem put_getD (a:Act) (d k:Nat) (v:Value) (hd:d<a.tmps.size):(a.put (some d) v).tmps.getD k undef=if k=d then v else a.tmps.getD k undef:=by
 show (a.tmps.setIfInBounds d v).getD k undef=_
 rw [Array.getD_eq_getD_getElem?,Array.getD_eq_getD_getElem?,Array.getElem?_setIfInBounds]
 by_cases h:d=k
 ·subst h;simp [hd]
 ·rw [if_neg h,if_neg (fun e=>h e.symm)]
theorem listed_set {L:Array Bool} {i k:Nat} (hi:i<L.size):(L.setIfInBounds i true).getD k false=if k=i then true else L.getD k false:=by
 rw [Array.getD_eq_getD_getElem?,Array.getD_eq_getD_getElem?,Array.getElem?_setIfInBounds]
 by_cases h:i=k
 ·subst h;simp [hi]
 ·rw [if_neg h,if_neg (fun e=>h e.symm)]
def notDst (ops:Array Oper) (k:Nat):Bool:=(List.range (ops.size-1)).all fun i => !decide (dstAt ops i=some k)
theorem Kept0.slot {ops:Array Oper} {a0 a:Act} (h:Kept0 ops a0 a) (k:Nat) (hk:notDst ops k=true):a.tmps.getD k undef=a0.tmps.getD k undef:=by
 refine h.same k fun i hi e=>?_
 unfold notDst at hk
 rw [List.all_eq_true] at hk
 have:=hk i (List.mem_range.2 (by omega))
 rw [e] at this
 simp at this
theorem region_draws {P:Program} {id:Nat} {ops:Array Oper} {Q:Exit→Act→World→Prop} {a0:Act} {w0:World} (hm:P.follows .mixedOrders=true) (hb:edgesBack ops=true) (hlast:lastWaits ops=true) (hdst:dstOwn ops a0.tmps.size=true)
 (I:World→Prop) (R:World→World→Prop) (Pr:Nat→World→Value→Prop) (hR:∀ i w w' v,Pr i w v→R w w'→Pr i w' v) (h0:I w0.drew)
 (hstep:∀ i o,i+1<ops.size→ops[i]? = some o→∀ a w,Kept0 ops a0 a→I w→(∀ e d,e∈o.after.toList→Region.binds .any e=true→dstAt ops e.on=some d→Pr e.on w (a.tmps.getD d undef))→o.guard=none∧o.wp P a w (fun a' w'=>∃ v,a'=a.put o.dst v∧R w w'∧I w'∧Pr i w' v) Q)
 (hend:∀ o,ops[ops.size-1]? = some o→∀ a w,Kept0 ops a0 a→I w→(∀ i d,i+1<ops.size→dstAt ops i=some d→Pr i w (a.tmps.getD d undef))→o.guard=none∧o.wp P a w (fun a' w'=>Q .normal a' w') Q) :
 (Code.region id ops true).wp P Q a0 w0:=by
 unfold lastWaits at hlast
 rw [Bool.and_eq_true,decide_eq_true_eq] at hlast
 obtain ⟨hpos,hlast⟩:=hlast
 have run:∀ {i:Nat} {o:Oper} {a:Act} {w:World} {K:Act→World→Prop},ops[i]? = some o→o.guard=none→o.wp P a w K Q→wpOp P ops Q i K a w:=by
  intro i o a w K ho hg h
  refine wpOp_step ho fun K' hK=>?_
  rw [if_pos (by simp [Region.wanted,hg])]
  exact Oper.wp_mono hK h
 refine region_inv hm (fun L a w=>((∀ k,k<ops.size→L.getD k true=true)∧Q .normal a w) ∨
  (L.getD (ops.size-1) false=false∧Kept0 ops a0 a∧I w∧∀ i d,i+1<ops.size→L.getD i false=true→dstAt ops i=some d→Pr i w (a.tmps.getD d undef))) hb (.inr ⟨?_,⟨rfl,rfl,fun _ _=>rfl⟩,h0,?_⟩) ?_ ?_
 ·simp [Array.getD]
 ·intro i d hi hl
  simp [Array.getD] at hl
 ·rintro L a w i o (⟨hall,_⟩|⟨hl,hk,hI,hp⟩) hs ho hi hd
  ·have hlt:i<ops.size:=(Array.getElem?_eq_some_iff.1 ho).1
   rw [hall i hlt] at hi
   cases hi
  ·have hlt:i<ops.size:=(Array.getElem?_eq_some_iff.1 ho).1
   by_cases hn:i+1<ops.size
   ·obtain ⟨hg,hwp⟩:=hstep i o hn ho a w hk hI (fun e d he hbi hde=>by
     have hon:e.on+1<ops.size:=by
      unfold edgesBack at hb
      rw [List.all_eq_true] at hb
      have h2:=hb i (List.mem_range.2 hlt)
      rw [ho] at h2
      simp only [Option.map_some,Option.getD_some,Array.all_eq_true',decide_eq_true_eq] at h2
      have:=h2 e (Array.mem_def.2 he)
      omega
     exact hp e.on d hon (hd e he hbi) hde)
    refine run ho hg (Oper.wp_mono ?_ hwp)
    rintro a' w' ⟨v,rfl,hr,hI',hv⟩
    obtain ⟨d,hd1,hd2,hd3⟩:=dst_of hdst hn
    have hod:o.dst=some d:=by unfold dstAt at hd1;rw [ho] at hd1;exact hd1
    rw [hod]
    refine .inr ⟨?_,⟨hk.defers,?_,?_⟩,hI',?_⟩
    ·rw [listed_set (by omega),if_neg (by omega)];exact hl
    ·show (a.tmps.setIfInBounds d v).size=_
     rw [Array.size_setIfInBounds];exact hk.size
    ·intro k hk2
     rw [put_getD _ _ _ _ (by rw [hk.size];exact hd2),if_neg (fun e=>hk2 i hn (by rw [e];exact hd1))]
     exact hk.same k hk2
    ·intro j dj hj hlj hdj
     rw [put_getD _ _ _ _ (by rw [hk.size];exact hd2)]
     rw [listed_set (by omega)] at hlj
     by_cases hij:j=i
     ·subst hij
      rw [hd1] at hdj
      cases hdj
      rw [if_pos rfl]
      exact hv
     ·rw [if_neg hij] at hlj
      rw [if_neg (fun e=>hd3 j hj (fun e2=>hij e2.symm) (by rw [hdj,e]))]
      exact hR j w w' _ (hp j dj hj hlj hdj) hr
   ·have hi':i=ops.size-1:=by omega
    subst hi'
    have hothers:∀ k,k+1<ops.size→L.getD k false=true:=by
     intro k hk2
     rw [List.all_eq_true] at hlast
     have h2:=hlast k (List.mem_range.2 (by omega))
     rw [ho] at h2
     simp only [Option.map_some,Option.getD_some,Array.any_eq_true',Bool.and_eq_true,decide_eq_true_eq] at h2
     obtain ⟨e,he,hek,hbi⟩:=h2
     rw [← hek]
     exact hd e (Array.mem_def.1 he) hbi
    obtain ⟨hg,hwp⟩:=hend o ho a w hk hI (fun j d hj hdj=>hp j d hj (hothers j hj) hdj)
    refine run ho hg (Oper.wp_mono ?_ hwp)
    intro a' w' hq
    refine .inl ⟨fun k hk2=>?_,hq⟩
    rw [getD_eq (by rw [Array.size_setIfInBounds];omega),← getD_eq (by rw [Array.size_setIfInBounds];omega) false,listed_set (by omega)]
    by_cases e:k=ops.size-1
    ·rw [if_pos e]
    ·rw [if_neg e];exact hothers k (by omega)
 ·rintro L a w (⟨_,hq⟩|⟨hl,_⟩) hs hall
  ·exact hq
  ·have:=hall (ops.size-1) (by omega)
   rw [getD_eq (by omega)] at hl this
   rw [this] at hl
   cases hl
def waits (ops:Array Oper) (j:Nat):List Nat:=((ops[j]?).map fun o=>(o.after.toList.filter fun e=>Region.binds .any e).map (·.on)).getD []
def reachN (ops:Array Oper):Nat→Nat→Nat→Bool
 |0,_,_=>false
 |n+1,i,j=>(waits ops j).any fun k=>decide (k=i)||reachN ops n i k
def reaches (ops:Array Oper) (i j:Nat):Bool:=reachN ops ops.size i j
def ClosedL (ops:Array Oper) (L:Array Bool):Prop:=∀ j k,L.getD j false=true→k∈waits ops j→L.getD k false=true
theorem reachN_listed {ops:Array Oper} {L:Array Bool} (hc:ClosedL ops L):∀ n i j,L.getD j false=true→reachN ops n i j=true→L.getD i false=true:=by
 intro n
 induction n with
 |zero=>intro i j _ h;cases h
 |succ n ih =>
  intro i j hj h
  unfold reachN at h
  rw [List.any_eq_true] at h
  obtain ⟨k,hk,h⟩:=h
  rw [Bool.or_eq_true,decide_eq_true_iff] at h
  have hkl:=hc j k hj hk
  rcases h with rfl|h
  ·exact hkl
  ·exact ih i k hkl h
theorem reachN_ready {ops:Array Oper} {L:Array Bool} (hc:ClosedL ops L) {i:Nat} (hr:∀ k,k∈waits ops i→L.getD k false=true):∀ n u,reachN ops n u i=true→L.getD u false=true:=by
 intro n u h
 cases n with
 |zero=>cases h
 |succ n =>
  unfold reachN at h
  rw [List.any_eq_true] at h
  obtain ⟨k,hk,h⟩:=h
  rw [Bool.or_eq_true,decide_eq_true_iff] at h
  have hkl:=hr k hk
  rcases h with rfl|h
  ·exact hkl
  ·exact reachN_listed hc n u k hkl h
structure KeptA (ops:Array Oper) (a0 a:Act):Prop where
 defers:a.defers=a0.defers
 size:a.tmps.size=a0.tmps.size
 same:∀ k,(∀ i,i<ops.size→dstAt ops i≠some k)→a.tmps.getD k undef=a0.tmps.getD k undef
def notDstA (ops:Array Oper) (k:Nat):Bool:=(List.range ops.size).all fun i => !decide (dstAt ops i=some k)
theorem KeptA.slot {ops:Array Oper} {a0 a:Act} (h:KeptA ops a0 a) (k:Nat) (hk:notDstA ops k=true):a.tmps.getD k undef=a0.tmps.getD k undef:=by
 refine h.same k fun i hi e=>?_
 unfold notDstA at hk
 rw [List.all_eq_true] at hk
 have:=hk i (List.mem_range.2 hi)
 rw [e] at this
 simp at this
def pickS:List Bool→List Value→(Nat→Value)→Nat→List Value
 |true :: ds,t :: ts,f,i=>t :: pickS ds ts f (i+1)
 |false :: ds,_ :: ts,f,i=>f i :: pickS ds ts f (i+1)
 |_,_,_,_=>[]
theorem pickS_len:∀ (ds:List Bool) (ts:List Value) (f:Nat→Value) (i:Nat),ds.length=ts.length→(pickS ds ts f i).length=ts.length
 |[],[],_,_,_=>rfl
 |true :: ds,t :: ts,f,i,h=>by
  have:=pickS_len ds ts f (i+1) (by simpa using h)
  simp [pickS,this]
 |false :: ds,t :: ts,f,i,h=>by
  have:=pickS_len ds ts f (i+1) (by simpa using h)
  simp [pickS,this]
 |[],_ :: _,_,_,h=>by simp at h
 |_ :: _,[],_,_,h=>by simp at h
theorem pickS_get:∀ (ds:List Bool) (ts:List Value) (f:Nat→Value) (i j:Nat),ds.length=ts.length→j<ts.length→(pickS ds ts f i)[j]? = if ds[j]? = some true then ts[j]? else some (f (i+j))
 |[],[],_,_,_,_,h=>by simp at h
 |true :: ds,t :: ts,f,i,0,_,_=>by simp [pickS]
 |false :: ds,t :: ts,f,i,0,_,_=>by simp [pickS]
 |true :: ds,t :: ts,f,i,j+1,h,hj=>by
  have:=pickS_get ds ts f (i+1) j (by simpa using h) (by simpa using hj)
  simp only [pickS,List.getElem?_cons_succ,this,show i+1+j=i+(j+1) by omega]
 |false :: ds,t :: ts,f,i,j+1,h,hj=>by
  have:=pickS_get ds ts f (i+1) j (by simpa using h) (by simpa using hj)
  simp only [pickS,List.getElem?_cons_succ,this,show i+1+j=i+(j+1) by omega]
 |[],_ :: _,_,_,_,h,_=>by simp at h
 |_ :: _,[],_,_,_,h,_=>by simp at h
theorem KeptA.pick {ops:Array Oper} {a0 a:Act} (h:KeptA ops a0 a) (ds:List Bool) (hd:(List.range a0.tmps.size).map (notDstA ops)=ds) :
 a={ tmps:=(pickS ds a0.tmps.toList (fun k=>a.tmps.getD k undef) 0).toArray,defers:=a0.defers }:=by
 obtain ⟨t,d⟩:=a
 have hdf:d=a0.defers:=h.defers
 have hs:t.size=a0.tmps.size:=h.size
 subst hdf
 have hl:ds.length=a0.tmps.toList.length:=by rw [← hd];simp
 congr 1
 apply Array.ext'
 apply List.ext_getElem?
 intro j
 by_cases hj:j<a0.tmps.size
 ·rw [List.toList_toArray,pickS_get ds _ _ 0 j hl (by simpa using hj),← hd]
  have e1:((List.range a0.tmps.size).map (notDstA ops))[j]? = some (notDstA ops j):=by simp [hj]
  rw [e1]
  by_cases hn:notDstA ops j=true
  ·rw [if_pos (by rw [hn])]
   have:=h.slot j hn
   simp only [Array.getElem?_toList]
   have e2:t[j]? = some (t.getD j undef):=by simp [Array.getD,show j<t.size by omega]
   have e3:a0.tmps[j]? = some (a0.tmps.getD j undef):=by simp [Array.getD,hj]
   rw [e2,e3]
   exact congrArg some this
  ·rw [if_neg (by intro e;exact hn (by simpa using e))]
   simp only [Array.getElem?_toList,Nat.zero_add]
   simp [Array.getD,show j<t.size by omega]
 ·rw [List.getElem?_eq_none (by simp;omega),List.getElem?_eq_none (by rw [List.toList_toArray,pickS_len _ _ _ _ hl];simp;omega)]
theorem wno {ops:Array Oper} {o:Oper} {a:Act} (hg:o.guard=none):Region.wanted o (yielded ops a.tmps)=true:=by simp [Region.wanted,hg]
def edgesBackB (ops:Array Oper):Bool:=(List.range ops.size).all fun i=>((ops[i]?).map (·.after.all fun e => !Region.binds .any e||decide (e.on<i))).getD true
theorem all_listedB {ops:Array Oper} {L:Array Bool} (hb:edgesBackB ops=true) (hs:L.size=ops.size) (hr:Region.ready .any ops L=[]):∀ i,i<ops.size→L.getD i true=true:=by
 intro i
 induction i using Nat.strongRecOn with
 |_ i ih =>
  intro hi
  cases hl:L.getD i true with
  |true=>rfl
  |false =>
   have:i∈Region.ready .any ops L:=by
    unfold Region.ready
    rw [List.mem_filter,List.mem_range,Bool.and_eq_true,Bool.not_eq_true']
    refine ⟨hi,hl,?_⟩
    rw [Array.getElem?_eq_getElem hi]
    simp only [Option.map_some,Option.getD_some,Array.all_eq_true',Bool.or_eq_true,Bool.not_eq_true']
    intro e he
    cases hbi:Region.binds .any e with
    |false=>left;rfl
    |true =>
    right
    unfold edgesBackB at hb
    rw [List.all_eq_true] at hb
    have h2:=hb i (List.mem_range.2 hi)
    rw [Array.getElem?_eq_getElem hi] at h2
    simp only [Option.map_some,Option.getD_some,Array.all_eq_true',Bool.or_eq_true,Bool.not_eq_true',decide_eq_true_eq] at h2
    have h3:e.on<i:=by
     rcases h2 e he with h2|h2
     ·rw [hbi] at h2;cases h2
     ·exact h2
    have h4:=ih e.on h3 (by omega)
    rw [getD_eq (by omega)] at h4 ⊢
    exact h4
   rw [hr] at this
   cases this
theorem wpAny_invB {P:Program} {ops:Array Oper} {Q:Exit→Act→World→Prop} (J:Array Bool→Act→World→Prop) (hb:edgesBackB ops=true)
 (hstep:∀ L a w i o,J L a w→L.size=ops.size→ops[i]? = some o→L.getD i true=false→(∀ e,e∈o.after.toList→Region.binds .any e=true→L.getD e.on false=true)→wpOp P ops Q i (J (L.setIfInBounds i true)) a w)
 (hdone:∀ L a w,J L a w→L.size=ops.size→(∀ i,i<ops.size→L.getD i true=true)→Q .normal a w) :
 ∀ fuel L a w,J L a w→L.size=ops.size→L.toList.count false≤fuel→wpAny P .any ops Q fuel L a w:=by
 intro fuel
 induction fuel with
 |zero =>
  intro L a w hJ hs hc
  have hall:∀ i,i<ops.size→L.getD i true=true:=by
   intro i hi
   cases h:L.getD i true with
   |true=>rfl
   |false=>have:=count_set (L:=L) (by omega) h;omega
  refine ⟨?_,hdone L a w hJ hs hall⟩
  cases hr:Region.ready .any ops L with
  |nil=>rfl
  |cons i rs =>
   have hm:i∈Region.ready .any ops L:=by rw [hr];exact List.mem_cons_self
   have:=ready_mem hm
   rw [hall i this.1] at this
   cases this.2.1
 |succ fuel ih =>
  intro L a w hJ hs hc
  refine ⟨fun hr=>hdone L a w hJ hs (all_listedB hb hs hr),fun i hi=>?_⟩
  obtain ⟨h1,h2,h3⟩:=ready_mem hi
  have ho:ops[i]? = some ops[i]:=Array.getElem?_eq_getElem h1
  refine wpOp_mono (fun a' w' hJ'=>ih _ a' w' hJ' (by rw [Array.size_setIfInBounds];exact hs) ?_) (hstep L a w i _ hJ hs ho h2 (h3 _ ho))
  have:=count_set (L:=L) (by omega) h2
  omega
theorem region_invB {P:Program} {id:Nat} {ops:Array Oper} {Q:Exit→Act→World→Prop} {a:Act} {w:World} (hm:P.follows .mixedOrders=true) (J:Array Bool→Act→World→Prop) (hb:edgesBackB ops=true)
 (h0:J (Array.replicate ops.size false) a w.drew)
 (hstep:∀ L a w i o,J L a w→L.size=ops.size→ops[i]? = some o→L.getD i true=false→(∀ e,e∈o.after.toList→Region.binds .any e=true→L.getD e.on false=true)→wpOp P ops Q i (J (L.setIfInBounds i true)) a w)
 (hdone:∀ L a w,J L a w→L.size=ops.size→(∀ i,i<ops.size→L.getD i true=true)→Q .normal a w):(Code.region id ops true).wp P Q a w :=
 wp_region_any hm (wpAny_invB J hb hstep hdone _ _ _ _ h0 (by simp) (by simp))
def valAt (ops:Array Oper) (a:Act) (i:Nat):Value:=match dstAt ops i with
 |some d=>a.tmps.getD d undef
 |none=>undef
def dstSome (ops:Array Oper) (size:Nat):Bool:=(List.range ops.size).all fun i=>match dstAt ops i with
 |some d=>decide (d<size)&&(List.range ops.size).all fun j=>decide (i=j) || !decide (dstAt ops j=some d)
 |none=>true
theorem dst_some {ops:Array Oper} {N i d:Nat} (h:dstSome ops N=true) (hi:i<ops.size) (hd:dstAt ops i=some d):d<N∧∀ j,j<ops.size→i≠j→dstAt ops j≠some d:=by
 unfold dstSome at h
 rw [List.all_eq_true] at h
 have h1:=h i (List.mem_range.2 (by omega))
 rw [hd] at h1
 simp only [Bool.and_eq_true,decide_eq_true_eq,List.all_eq_true,List.mem_range,Bool.or_eq_true,Bool.not_eq_true',decide_eq_false_iff_not] at h1
 refine ⟨h1.1,fun j hj hne=>?_⟩
 rcases h1.2 j (by omega) with h2|h2
 ·exact absurd h2 hne
 ·exact h2
theorem op_callR {P:Program} {o:Oper} {a:Act} {w:World} {K:Act→World→Prop} {Q:Exit→Act→World→Prop} {f:FuncId} {args:Array Value} (hrun:(execOp a.eval o).run P w = .ok (.enter f args) w) {post:Ending→World→Prop} (hc:Calls P f args w post)
 (h:∀ e w',post e w'→∃ v,e = .returned v∧K (a.put o.dst v) w'):o.wp P a w K Q:=by
 unfold Oper.wp
 rw [hrun,Oper.upon_enter]
 refine hc.mono fun e w'' hh=>?_
 obtain ⟨v,rfl,hk⟩:=h e w'' hh
 exact hk
theorem region_lists {G:Type} {P:Program} {id:Nat} {ops:Array Oper} {Q:Exit→Act→World→Prop} {a0:Act} {w0:World} (hm:P.follows .mixedOrders=true) (hb:edgesBackB ops=true) (hdst:dstSome ops a0.tmps.size=true)
 (use:Nat→Nat) (I:(Nat→Bool)→G→World→Prop) (R:Nat→G→World→G→World→Prop) (Pr:Nat→G→World→Value→Prop)
 (hR:∀ i j y y' w w' v,i<ops.size→j<ops.size→i≠j→use j≠i→reaches ops i j=false→reaches ops (use j) i=false→Pr j y w v→R i y w y' w'→Pr j y' w' v) (y0:G) (h0:I (fun _=>false) y0 w0.drew)
 (hstep:∀ i o,i<ops.size→ops[i]? = some o→∀ L a y w,L i=false→(∀ k,k∈waits ops i→L k=true)→(∀ k,reaches ops i k=true→L k=false)→KeptA ops a0 a→I L y w→(∀ j,j∈waits ops i→use j=i∨ops.size≤use j→Pr j y w (valAt ops a j))→Region.wanted o (yielded ops a.tmps)=true∧o.wp P a w (fun a' w'=>∃ v y',a'=a.put o.dst v∧R i y w y' w'∧I (fun k=>if k=i then true else L k) y' w'∧∀ u,(o.dst≠none→u=v)→Pr i y' w' u) Q)
 (hend:∀ L a y w,(∀ i,i<ops.size→L i=true)→KeptA ops a0 a→I L y w→(∀ i,i<ops.size→ops.size≤use i→Pr i y w (valAt ops a i))→Q .normal a w) :
 (Code.region id ops true).wp P Q a0 w0:=by
 have nolist:∀ {L:Array Bool} {k:Nat},L.size=ops.size→ops.size≤k→L.getD k false=false:=by
  intro L k hs hk
  simp [Array.getD,show ¬ k<L.size by omega]
 have llt:∀ {L:Array Bool} {k:Nat},L.size=ops.size→L.getD k false=true→k<ops.size:=by
  intro L k hs hk
  apply Classical.byContradiction
  intro hn
  rw [nolist hs (by omega)] at hk
  cases hk
 refine region_invB hm (fun L a w=>∃ y,L.size=ops.size∧ClosedL ops L∧KeptA ops a0 a∧I (fun k=>L.getD k false) y w∧∀ i,L.getD i false=true→L.getD (use i) false=false→Pr i y w (valAt ops a i)) hb ⟨y0,by simp,?_,⟨rfl,rfl,fun _ _=>rfl⟩,?_,?_⟩ ?_ ?_
 ·intro j k hj
  simp [Array.getD] at hj
 ·have e:(fun k=>(Array.replicate ops.size false).getD k false)=fun _=>false:=by
   funext k
   by_cases hk:k<ops.size<;>simp [Array.getD,hk]
  rw [e]
  exact h0
 ·intro i hi
  simp [Array.getD] at hi
 ·rintro L a w i o ⟨y,_,hc,hk,hI,hp⟩ hs ho hi hd
  have hlt:i<ops.size:=(Array.getElem?_eq_some_iff.1 ho).1
  have hif:L.getD i false=false:=by rw [getD_eq (by omega)] at hi ⊢;exact hi
  have hw:∀ k,k∈waits ops i→L.getD k false=true:=by
   intro k hk2
   unfold waits at hk2
   rw [ho] at hk2
   simp only [Option.map_some,Option.getD_some,List.mem_map,List.mem_filter] at hk2
   obtain ⟨e,⟨he,hbi⟩,rfl⟩:=hk2
   exact hd e he hbi
  obtain ⟨hg,hwp⟩:=hstep i o hlt ho (fun k=>L.getD k false) a y w hif hw (fun k hr=>by
   cases hlk:L.getD k false with
   |false=>rfl
   |true=>rw [reachN_listed hc _ i k hlk hr] at hif;cases hif) hk hI (fun j hj hu=>hp j (hw j hj) (by
   rcases hu with hu|hu
   ·rw [hu];exact hif
   ·exact nolist hs hu))
  refine wpOp_step ho fun K' hK=>?_
  rw [if_pos hg]
  refine Oper.wp_mono hK (Oper.wp_mono ?_ hwp)
  rintro a' w' ⟨v,y',rfl,hr,hI',hv⟩
  have hoi:dstAt ops i=o.dst:=by unfold dstAt;rw [ho];rfl
  have closed:ClosedL ops (L.setIfInBounds i true):=by
   intro j k hj hk2
   rw [listed_set (by omega)] at hj ⊢
   by_cases hki:k=i
   ·rw [if_pos hki]
   rw [if_neg hki]
   by_cases hji:j=i
   ·subst hji;exact hw k hk2
   ·rw [if_neg hji] at hj
    exact hc j k hj hk2
  have kept:KeptA ops a0 (a.put o.dst v):=by
   cases hod:o.dst with
   |none=>exact hk
   |some d =>
    have hd1:dstAt ops i=some d:=hoi.trans hod
    have hd2:=(dst_some hdst hlt hd1).1
    refine ⟨hk.defers,?_,fun k hk2=>?_⟩
    ·show (a.tmps.setIfInBounds d v).size=_
     rw [Array.size_setIfInBounds];exact hk.size
    ·rw [put_getD _ _ _ _ (by rw [hk.size];exact hd2),if_neg (fun e=>hk2 i hlt (by rw [e];exact hd1))]
     exact hk.same k hk2
  have old:∀ j,j<ops.size→j≠i→valAt ops (a.put o.dst v) j=valAt ops a j:=by
   intro j hj hne
   unfold valAt
   cases hod:o.dst with
   |none=>rfl
   |some d =>
    have hd1:dstAt ops i=some d:=hoi.trans hod
    obtain ⟨hd2,hd3⟩:=dst_some hdst hlt hd1
    cases hdj:dstAt ops j with
    |none=>rfl
    |some dj =>
     show (a.put (some d) v).tmps.getD dj undef=a.tmps.getD dj undef
     rw [put_getD _ _ _ _ (by rw [hk.size];exact hd2),if_neg (fun e=>hd3 j hj (fun e2=>hne e2.symm) (by rw [hdj,e]))]
  have eL:(fun k=>(L.setIfInBounds i true).getD k false)=fun k=>if k=i then true else L.getD k false:=by
   funext k
   exact listed_set (by omega)
  refine ⟨y',by rw [Array.size_setIfInBounds];exact hs,closed,kept,by rw [eL];exact hI',?_⟩
  intro j hlj huj
  rw [listed_set (by omega)] at hlj huj
  by_cases hij:j=i
  ·subst hij
   refine hv _ fun hne=>?_
   unfold valAt
   rw [hoi]
   cases hod:o.dst with
   |none=>exact absurd hod hne
   |some d =>
    have hd1:dstAt ops j=some d:=hoi.trans hod
    show (a.put (some d) v).tmps.getD d undef=v
    rw [put_getD _ _ _ _ (by rw [hk.size];exact (dst_some hdst hlt hd1).1),if_pos rfl]
  ·rw [if_neg hij] at hlj
   have hjl:=llt hs hlj
   have hui:use j≠i:=by
    intro e
    rw [if_pos e] at huj
    cases huj
   rw [if_neg hui] at huj
   rw [old j hjl hij]
   refine hR i j y y' w w' _ hlt hjl (fun e=>hij e.symm) hui ?_ ?_ (hp j hlj huj) hr
   ·cases hre:reaches ops i j with
    |false=>rfl
    |true=>rw [reachN_listed hc _ i j hlj hre] at hif;cases hif
   ·cases hre:reaches ops (use j) i with
    |false=>rfl
    |true=>rw [reachN_ready hc hw _ _ hre] at huj;cases huj
 ·rintro L a w ⟨y,_,_,hk,hI,hp⟩ hs hall
  have all:∀ i,i<ops.size→L.getD i false=true:=by
   intro i hi
   have:=hall i hi
   rw [getD_eq (by rw [hs];exact hi)] at this ⊢
   exact this
  exact hend (fun k=>L.getD k false) a y w all hk hI fun i hi hu=>hp i (all i hi) (nolist hs hu)
theorem itcopy_none (w:World) (ty:TypeId) (d s:Option Addr) (dc sc:Nat) :
 (Builtin.copy_ #[78,78] ty #[.slice d 0 dc,.slice s 0 sc]).run Tryz.prog w = .ok (goInt 0) w:=by
 obtain ⟨i0,hi0,hz0,hz1,hz2⟩:=info_parts itInfo
 have hl:∀ (x:Addr),(loadCells x 0).run Tryz.prog w = .ok #[] w:=fun x=>by simpa using run_loadCells_list (P:=Tryz.prog) w x [] (by simp)
 cases d<;>cases s<;>simp [Builtin.copy_,run_underlying Tryz.underlying78,Builtin.lenOf,Builtin.firstCells,sizeOf,typeInfo,hi0,storeCells,hl]
theorem itcopy_run (w:World) (ty:TypeId) (g:Nat) (a:Option Addr) (sCap:Nat) (l:List It) (cur:Array Value)
 (hg:w.heap[g]? = some (.cells cur 80 (0,0))) (hc:cur.size=l.length*3) (h:ItsAt w a l) :
 (Builtin.copy_ #[78,78] ty #[.slice (some ⟨g,0,none⟩) l.length l.length,.slice a l.length sCap]).run Tryz.prog w =
  .ok (.int .i64 (l.length:Int)) (w.setRow g (itcells l).toArray):=by
 obtain ⟨i0,hi0,hz0,hz1,hz2⟩:=info_parts itInfo
 cases l with
 |nil =>
  have e:w.setRow g (itcells []).toArray=w:=by
   obtain rfl:cur=#[]:=by simpa using hc
   exact setRow_self w g _ _ _ hg
  rw [e]
  exact itcopy_none w ty _ _ _ _
 |cons x xs =>
  obtain ⟨b,off,ha,_⟩:=h 0 (by simp)
  subst ha
  have hsrc:∀ j v,(itcells (x :: xs))[j]? = some v→w.cell? ((⟨b,off,none⟩:Addr).add j)=some v:=by
   intro j u hj
   have hj':j<(x :: xs).length*3:=by
    have:=(List.getElem?_eq_some_iff.1 hj).1
    rwa [itcells_length] at this
   obtain ⟨k,i,rfl,hi⟩:∃ k i,j=k*3+i∧i<3:=⟨j/3,j%3,by omega,Nat.mod_lt _ (by omega)⟩
   have hk:k<(x :: xs).length:=by omega
   obtain ⟨b',off',e,_,c0,c1,c2⟩:=h k hk
   cases e
   obtain ⟨e0,e1,e2⟩:=itcells_get (x :: xs) k hk
   rw [show (⟨b,off,none⟩:Addr).add (k*3+i)=⟨b,off+k*3+i,none⟩ by by_cases h0:k*3+i=0<;>simp [Addr.add,h0,Nat.add_assoc];omega]
   match i,hi with
   |0,_=>rw [Nat.add_zero] at hj;rw [e0] at hj;rw [Nat.add_zero,c0];exact hj
   |1,_=>rw [e1] at hj;rw [c1];exact hj
   |2,_=>rw [e2] at hj;rw [c2];exact hj
  generalize hL:x :: xs=L at *
  have hl:=run_loadCells_list (P:=Tryz.prog) w ⟨b,off,none⟩ (itcells L) hsrc
  have hst:=run_storeCells_at Tryz.prog g 0 80 (itcells L) 0 cur w hg (by simp [itcells_length,hc]) (itcells_one L)
  have e1:(cur.toList.take 0++itcells L++cur.toList.drop (0+(itcells L).length))=itcells L:=by
   rw [List.take_zero,List.nil_append,Nat.zero_add,itcells_length,← hc,← Array.length_toList,List.drop_length,List.append_nil]
  rw [Nat.add_zero,e1] at hst
  have hm:Nat.min L.length L.length=L.length:=Nat.min_self _
  rw [itcells_length] at hl
  simp [Builtin.copy_,run_underlying Tryz.underlying78,Builtin.lenOf,Builtin.firstCells,sizeOf,typeInfo,hi0,hz1,hm,hl,hst]
  rfl
theorem implCopyOf (a:Option Addr) (cap:Nat) (l:List It) (w:World) (hT:l.length≤1048576) (h:Hid (ItsAt w a l)) :
 Calls Tryz.prog 194 #[.slice a l.length cap] w fun e w'=>∃ g,e = .returned (.slice (some ⟨g,0,none⟩) l.length l.length)∧ItRow w.heap.size w' (.slice (some ⟨g,0,none⟩) l.length l.length) l∧Below w.heap.size w w':=by
 obtain ⟨i0,hi,hz0,hz1,hz2⟩:=info_parts itInfo
 have hgm:(w.alloc (.cells (madeCells #[.int .i64 0,.int .i64 0,.int .i64 0] (l.length*3)) 80)).heap[w.heap.size]? = some (.cells (madeCells #[.int .i64 0,.int .i64 0,.int .i64 0] (l.length*3)) 80 (0,0)):=by
  show (w.heap.push _)[w.heap.size]? = _
  simp
 have hcp:=fun ty=>itcopy_run (w.alloc (.cells (madeCells #[.int .i64 0,.int .i64 0,.int .i64 0] (l.length*3)) 80)) ty w.heap.size a cap l _ hgm (by rw [size_madeCells]) (h.out.alloc _)
 have Fin:Hid (ItRow w.heap.size ((w.alloc (.cells (madeCells #[.int .i64 0,.int .i64 0,.int .i64 0] (l.length*3)) 80)).setRow w.heap.size (itcells l).toArray) (.slice (some ⟨w.heap.size,0,none⟩) l.length l.length) l∧Below w.heap.size w ((w.alloc (.cells (madeCells #[.int .i64 0,.int .i64 0,.int .i64 0] (l.length*3)) 80)).setRow w.heap.size (itcells l).toArray)):=by
  refine ⟨⟨itcells_length l,.inr ⟨w.heap.size,l.length,(itcells l).toArray,rfl,nlr,setRow_heap _ _ _ _ _ _ hgm,nlr,by unfold maxLen;omega,by simp [itcells_length],?_⟩⟩,?_⟩
  ·simp [← itcells_length]
  ·have b:Below w.heap.size w (w.alloc (.cells (madeCells #[.int .i64 0,.int .i64 0,.int .i64 0] (l.length*3)) 80)):=(Below.refl _ _).alloc nlr _
   exact b.trans ⟨rfl,rfl,rfl,by simp [World.setRow],fun k hk=>setRow_other _ _ k _ (by omega)⟩
 clear hgm
 obtain ⟨len,hlen⟩:∃ n,l.length=n:=⟨_,rfl⟩
 rw [hlen] at hT hcp Fin ⊢
 clear hlen
 have hmk:∀ wx,(Instr.makeSlice 78 (.int .i64 (len:Int)) (.int .i64 (len:Int))).run Tryz.prog wx = .ok (.slice (some ⟨wx.heap.size,0,none⟩) len len) (wx.alloc (.cells (madeCells #[.int .i64 0,.int .i64 0,.int .i64 0] (len*3)) 80)):=by
  intro wx
  have:=run_make (P:=Tryz.prog) wx 78 80 i0 (.agg #[.int .i64 0,.int .i64 0,.int .i64 0]) Tryz.underlying78 hi hz0 .i64 .i64 len len (by omega) (by omega) (by rw [hz2];omega) (by omega)
  rw [this,hz1];simp [Value.cells]
 clear hi hz0 hz1 hz2
 generalize (w.alloc (.cells (madeCells #[.int .i64 0,.int .i64 0,.int .i64 0] (len*3)) 80)).setRow w.heap.size (itcells l).toArray=W2 at hcp Fin
 go_enter Tryz.func194,Tryz.ntmps194
 go_wp2
 go_ret
 exact ⟨_,rfl,Fin.out⟩
theorem implInAllIt (ls:List (List It)) (a:Option Addr) (c:Nat) (w:World) (hT:ls.length≤1048576) (hS:izSum ls ls.length≤1048576) (h:Hid (IzAt w a ls)) :
 Calls Tryz.prog 236 #[.slice a ls.length c] w fun e w'=>e = .returned (.int .i64 (izSum ls ls.length))∧w'=w:=by
 obtain ⟨len,hlen⟩:∃ n,ls.length=n:=⟨_,rfl⟩
 rw [hlen] at hT hS ⊢
 have Hlen:Hid (ls.length=len):=hlen
 clear hlen
 go_enter Tryz.func236,Tryz.ntmps236
 go_wp2
 go_loop [3,8] (fun s i=>∃ (k:Nat) (q:Int),k≤len∧i = .int .i64 k∧s = .int .i64 q∧0≤q∧q≤1048576∧Hid (q=izSum ls k)) (fun _ i=>len-(intOf i).toNat)
 case atStart=>exact ⟨0,0,Nat.zero_le _,rfl,rfl,by omega,by omega,by show (0:Int)=(izSum ls 0:Nat);rw [izSum_zero];rfl⟩
 case round =>
  obtain ⟨k,q,hk,rfl,rfl,q0,q1,Hq⟩:=hrel
  by_cases hlt:k<len
  ·have hkl:k<ls.length:=by rw [Hlen.out];exact hlt
   obtain ⟨b,off,ak,ck,ha,hb,hc,-,-⟩:=h.out k hkl
   subst ha
   have hs:=izSum_succ hkl
   have hm:=izSum_mono (ls:=ls) (i:=k+1) (j:=len) (by omega) (by rw [Hlen.out];exact Nat.le_refl _)
   have q2:q+((izAt ls k).length:Int)≤1048576:=by have:=Hq.out;omega
   have Hs:Hid (izSum ls (k+1)=izSum ls k+(izAt ls k).length):=hs
   generalize (izAt ls k).length=n at hc q2 Hs
   clear hs hm
   go_wp2
   go_round
   case rel =>
    refine ⟨k+1,q+n,by omega,by go_num,by go_num,by omega,by omega,?_⟩
    show q+n=((izSum ls (k+1):Nat):Int)
    rw [Hs.out,Hq.out]
    push_cast
    rfl
   case measure=>simp [intOf];omega
  ·obtain rfl:k=len:=by omega
   go_wp2
   go_ret
   exact ⟨ret_num Hq.out,rfl⟩
theorem IzB.grow {ls:List (List It)} {len G:Nat} {vs:List Value} {wr:World} (h:IzB ls len G len vs wr) (hl:ls.length=len):IzG G (.slice (some ⟨G,0,none⟩) len len) vs ls wr:=by
 subst hl
 have ho:=h.outer
 rw [Nat.sub_self,List.replicate_zero,List.append_nil] at ho
 exact ⟨ho,h.len,h.row,fun i j k hi hj hne h1 h2=>h.apart i j hi hj hne (h1.trans h2.symm)⟩
def Tight (vs:List Value):Prop:=∀ i,i<vs.length→∃ x n,izV vs i = .slice (some ⟨x,0,none⟩) n n
theorem implOwnIt (ls:List (List It)) (a:Option Addr) (c:Nat) (w:World) (hT:ls.length≤1048576) (hin:∀ k,k<ls.length→(izAt ls k).length≤1048576) (h:Hid (IzAt w a ls)) :
 Calls Tryz.prog 156 #[.slice a ls.length c] w fun e w'=>(∃ vs,e = .returned (.slice (some ⟨w.heap.size,0,none⟩) ls.length ls.length)∧IzG w.heap.size (.slice (some ⟨w.heap.size,0,none⟩) ls.length ls.length) vs ls w'∧Tight vs)∧Below w.heap.size w w':=by
 have Hin:Hid (∀ k,k<ls.length→(izAt ls k).length≤1048576):=hin
 obtain ⟨i0,hi,hz0,hz1,hz2⟩:=info_parts izInfo
 obtain ⟨n,hn⟩:∃ n,ls.length=n:=⟨_,rfl⟩
 rw [hn] at hT ⊢
 have Hn:Hid (ls.length=n):=hn
 clear hn hin
 have hmk:∀ wx,(Instr.makeSlice 42 (.int .i64 (n:Int)) (.int .i64 (n:Int))).run Tryz.prog wx = .ok (.slice (some ⟨wx.heap.size,0,none⟩) n n) (wx.alloc (.cells (madeCells #[.slice none 0 0] (n*1)) 78)):=by
  intro wx
  have:=run_make (P:=Tryz.prog) wx 42 78 i0 (.slice none 0 0) Tryz.underlying42 hi hz0 .i64 .i64 n n (by omega) (by omega) (by rw [hz2];omega) (by omega)
  rw [this,hz1];simp [Value.cells]
 clear hi hz0 hz1 hz2
 have X:Hid (IzB ls n w.heap.size 0 [] (w.alloc (.cells (madeCells #[.slice none 0 0] (n*1)) 78))∧Below w.heap.size w (w.alloc (.cells (madeCells #[.slice none 0 0] (n*1)) 78))):=by
  refine ⟨?_,(Below.refl _ _).alloc nlr _⟩
  have:=World.ownsRow_lit (size:=1) (e:=78) (base:=w.heap.size) w (madeCells #[.slice none 0 0] (n*1)) n nlr (by unfold maxLen;omega) (by rw [size_madeCells])
  rw [izMade] at this
  exact ⟨by simpa using this,rfl,fun i hi=>by omega,fun i hi=>by omega,fun i j hi=>by omega⟩
 rw [Nat.mul_one] at X
 obtain ⟨G,hG0⟩:∃ G,G=w.heap.size:=⟨_,rfl⟩
 have HG:Hid (G=w.heap.size):=hG0
 clear hG0
 go_enter Tryz.func156,Tryz.ntmps156
 go_wp2
 rw [← HG.out] at X ⊢
 generalize w.alloc (.cells (madeCells #[.slice none 0 0] n) 78)=W1 at X ⊢
 go_loopw [11] (fun i wr=>∃ k:Nat,k≤n∧i = .int .i64 k∧Hid (∃ vs,IzB ls n G k vs wr∧Below G w wr∧Tight vs)) (fun i _=>n-(intOf i).toNat)
 case atStart=>exact ⟨0,Nat.zero_le _,rfl,[],X.out.1,X.out.2,fun i hi=>by simp at hi⟩
 case round =>
  clear X hmk
  obtain ⟨k,hk,rfl,H1⟩:=hrel
  obtain ⟨vs,H1⟩:∃ vs,Hid (IzB ls n G k vs wr∧Below G w wr∧Tight vs):=H1.out
  have Bw:Hid (Below w.heap.size w wr):=by have:=H1.out.2.1;rw [HG.out] at this;exact this
  by_cases hlt:k<n
  ·have R:Hid (IzAt wr a ls):=h.out.below Bw.out
   obtain ⟨b1,o1,i1,c1,ha1,hb1,hc1,hr1,-⟩:=R.out k (by rw [Hn.out];exact hlt)
   subst ha1
   have hn:=Hin.out k (by rw [Hn.out];exact hlt)
   have T:=fun w h=>implCopyOf i1 c1 (izAt ls k) w hn h
   have hG:G<wr.heap.size:=(World.ownsRow.lt H1.out.1.outer _ rfl).2
   have hlt':(k:Int)<(n:Int):=by omega
   have St:Hid (∀ w2 x,ItRow wr.heap.size w2 (.slice (some ⟨x,0,none⟩) (izAt ls k).length (izAt ls k).length) (izAt ls k)→Below wr.heap.size wr w2 →
    (∃ vs',IzB ls n G (k+1) vs' (w2.setCell ⟨G,k,none⟩ (.slice (some ⟨x,0,none⟩) (izAt ls k).length (izAt ls k).length))∧Below G w (w2.setCell ⟨G,k,none⟩ (.slice (some ⟨x,0,none⟩) (izAt ls k).length (izAt ls k).length))∧Tight vs')∧(∃ y,w2.cell? ⟨G,k,none⟩=some y)∧w2.frozen? ⟨G,k,none⟩=false):=fun w2 x q1 q2=>by
    have hb:=H1.out.1.below q2
    refine ⟨⟨_,H1.out.1.add hlt q2 q1,(H1.out.2.1.trans (q2.mono (by omega))).setCell nlr _,fun i hi=>?_⟩,?_,hb.outer.frozenAt k⟩
    ·by_cases e:i<vs.length
     ·rw [izV_old e];exact H1.out.2.2 i e
     ·obtain rfl:i=vs.length:=by simp at hi;omega
      rw [izV_new]
      exact ⟨_,_,rfl⟩
    ·rw [hb.outer.cellAt k (by omega)]
     exact ⟨_,List.getElem?_eq_getElem (by have:=hb.len;simp;omega)⟩
   generalize izAt ls k=l at hc1 hr1 T St
   generalize hln:l.length=m at hc1 T St
   clear hln
   have T':Hid _:=T
   have Hr1:Hid (ItsAt wr i1 l):=hr1
   clear T hr1 hn R
   go_wp2_with fail
   refine (T'.out _ Hr1.out).mono ?_
   rintro e w2 ⟨x,rfl,q1,q2⟩
   obtain ⟨H3,⟨y,hy⟩,hz⟩:=St.out w2 x q1 q2
   have H3:Hid _:=H3
   have hG2:G<w2.heap.size:=Nat.lt_of_lt_of_le hG q2.size
   clear q1 q2 St hc1
   go_wp2
   go_roundw
   case rel=>exact ⟨k+1,by omega,by go_num,H3⟩
   case measure=>simp [intOf];omega
  ·obtain rfl:k=n:=by omega
   have Y:Hid (IzG G (.slice (some ⟨G,0,none⟩) k k) vs ls wr∧Tight vs):=⟨H1.out.1.grow Hn.out,H1.out.2.2⟩
   clear H1
   go_wp2
   go_ret
   refine ⟨⟨vs,?_,?_⟩,Bw.out⟩
   ·rw [← HG.out];rfl
   ·have:=Y.out;rw [HG.out] at this;exact this
theorem implCntRw (r:Rw) (a:Option Addr) (c:Nat) (w:World) (hB:r.big≤1048576) (h:Hid (IzAt w a r.lists)) :
 Calls Tryz.prog 202 #[r.val a c] w fun e w'=>e = .returned (.int .i64 (izSum r.lists r.lists.length))∧Bel w w':=by
 obtain ⟨hT,hS,-⟩:=Rw.small hB
 obtain ⟨f,ls⟩:=r
 simp only [Rw.val] at h hT hS ⊢
 have b0:Bel w (w.alloc (.cells #[.int .i64 f,.slice a ls.length c] 44)):=(Below.refl _ _).alloc nlr _
 have C:=fun (_:Nat)=>implInAllIt ls a c _ hT hS (h.out.below b0)
 generalize izSum ls ls.length=s at C ⊢
 generalize ls.length=n at C b0 ⊢
 have C':Hid _:=C
 have B0:Hid _:=b0
 clear C b0 h hB hT hS
 go_enter Tryz.func202,Tryz.ntmps202
 go_wp2_with fail
 refine (C'.out 0).mono ?_
 rintro e w' ⟨rfl,rfl⟩
 go_wp2
 go_ret
 exact ⟨rfl,B0.out⟩
theorem implCpyRw (r:Rw) (a:Option Addr) (c:Nat) (w:World) (hB:r.big≤1048576) (h:Hid (IzAt w a r.lists)) :
 Calls Tryz.prog 102 #[r.val a c] w fun e w'=>(∃ v vs,e = .returned (.agg #[.int .i64 r.most,v])∧IzG (w.heap.size+2) v vs r.lists w'∧Tight vs)∧Bel w w':=by
 obtain ⟨hT,-,hin⟩:=Rw.small hB
 obtain ⟨f,ls⟩:=r
 simp only [Rw.val] at h hT hin ⊢
 clear hB
 have C:=fun (w:World) (hh:IzAt w a ls)=>implOwnIt ls a c w hT hin hh
 obtain ⟨n,hn⟩:∃ n,ls.length=n:=⟨_,rfl⟩
 rw [hn] at C ⊢
 have C':Hid _:=C
 have Hn:Hid (ls.length=n):=hn
 clear C hT hin hn
 obtain ⟨W,hW⟩:∃ W,W=(w.alloc (.cells #[.int .i64 f,.slice a n c] 44)).alloc (.cells #[.int .i64 0,.slice none 0 0] 44):=⟨_,rfl⟩
 have X:Hid (W.heap.size=w.heap.size+2∧Boxed W w.heap.size #[.int .i64 f,.slice a n c] 44∧Boxed W (w.heap.size+1) #[.int .i64 0,.slice none 0 0] 44∧Bel w W):=by
  rw [hW]
  refine ⟨by simp,(Boxed.new w _ _).more _,?_,((Below.refl _ _).alloc nlr _).alloc (by simp) _⟩
  have:=Boxed.new (w.alloc (.cells #[.int .i64 f,.slice a n c] 44)) #[.int .i64 0,.slice none 0 0] 44
  simpa using this
 have HK:Hid (IzAt w a ls):=h
 have HWe:Hid (W=_):=hW
 clear hW h
 go_enter Tryz.func102,Tryz.ntmps102
 go_upto_region 1 with fail
 rw [← HWe.out]
 clear HWe
 refine region_lists (G:=Nat) (by kernel_rfl) (by kernel_rfl) (by kernel_rfl) (fun i=>if i=4 then 5 else if i=5 then 6 else 99) (fun (L:Nat→Bool) (_:Nat) (x:World)=>L 6=false→Bel W x) (fun i _ x _ x'=>i≠4→i≠6→x'=x) (fun k y x u=>([fun _ _ u=>u = .pointer (some ⟨w.heap.size,0,none⟩),fun _ _ u=>u = .int .i64 f,fun _ _ u=>u = .pointer (some ⟨w.heap.size,1,none⟩),fun _ _ u=>u = .slice a n c,fun _ x u=>∃ g vs,u = .slice (some ⟨g,0,none⟩) n n∧IzG (w.heap.size+2) u vs ls x∧Tight vs∧Bel W x,fun _ x u=>∃ g vs,u = .agg #[.int .i64 f,.slice (some ⟨g,0,none⟩) n n]∧IzG (w.heap.size+2) (.slice (some ⟨g,0,none⟩) n n) vs ls x∧Tight vs∧Bel W x,fun _ x _=>∃ g vs,Boxed x (w.heap.size+1) #[.int .i64 f,.slice (some ⟨g,0,none⟩) n n] 44∧IzG (w.heap.size+2) (.slice (some ⟨g,0,none⟩) n n) vs ls x∧Tight vs∧Bel w x]:List (Nat→World→Value→Prop)).getD k (fun _ _ _=>True) y x u) ?hR 0 ?h0 ?step ?last
 case hR =>
  intro i' j' y y' x x' u hi1 hj1 hne hu h1 h2 hp hr
  have hj':j'<7:=hj1
  have hi':i'<7:=hi1
  have hcases:j'=0∨j'=1∨j'=2∨j'=3∨j'=4∨j'=5∨j'=6:=by omega
  rcases hcases with rfl|rfl|rfl|rfl|rfl|rfl|rfl
  ·exact hp
  ·exact hp
  ·exact hp
  ·exact hp
  ·have e:x'=x:=hr hne (by rintro rfl;exact absurd h2 (by decide +kernel))
   subst e
   exact hp
  ·have e:x'=x:=hr (by rintro rfl;exact absurd h1 (by decide +kernel)) (fun e=>hu e.symm)
   subst e
   exact hp
  ·have e:x'=x:=hr (by rintro rfl;exact absurd h1 (by decide +kernel)) hne
   subst e
   exact hp
 case h0=>exact fun _=>(Below.refl _ _).drew
 case step =>
  intro q o hq ho L a' y x hLi hwt hre hkp hI hp
  have s1:a'.tmps[1]?.getD undef = .pointer (some ⟨w.heap.size,0,none⟩):=by have h2:a'.tmps.getD 1 undef = .pointer (some ⟨w.heap.size,0,none⟩):=hkp.slot 1 (by kernel_rfl);simpa using h2
  have s2:a'.tmps.getD 2 undef = .pointer (some ⟨w.heap.size+1,0,none⟩):=hkp.slot 2 (by kernel_rfl)
  have hI':∀ k:Nat,k≠6→(if (6:Nat)=k then true else L 6)=false→Bel W x:=by
   intro k n1 z
   have e1:(if (6:Nat)=k then true else L 6)=L 6:=if_neg (fun e=>n1 e.symm)
   rw [e1] at z
   exact hI z
  have hbx:L 6=false→x.cell? ⟨w.heap.size,0,none⟩=some (.int .i64 f)∧x.cell? ⟨w.heap.size,1,none⟩=some (.slice a n c):=fun z=>by
   have b:=X.out.2.1.below X.out.2.1.under (hI z)
   exact ⟨b.cell 0 rfl,b.cell 1 rfl⟩
  have hq':q<7:=hq
  have hcases:q=0∨q=1∨q=2∨q=3∨q=4∨q=5∨q=6:=by omega
  rcases hcases with rfl|rfl|rfl|rfl|rfl|rfl|rfl
  ·cases ho
   refine ⟨wno rfl,Oper.wp_mono (K:=fun z x'=>z=a'.put (some 3) (.pointer (some ⟨w.heap.size,0,none⟩))∧x'=x) ?_ ?_⟩
   ·rintro z x' ⟨rfl,rfl⟩
    exact ⟨_,y,rfl,fun _ _=>rfl,hI' 0 (by decide),fun u hu=>hu (fun h=>by cases h)⟩
   ·unfold Oper.wp
    simp [go_sem,s1]
  ·cases ho
   have e0:a'.tmps.getD 3 undef = .pointer (some ⟨w.heap.size,0,none⟩):=hp 0 (od (by kernel_rfl)) (.inr (by decide))
   have e0':a'.tmps[3]?.getD undef = .pointer (some ⟨w.heap.size,0,none⟩):=by simpa using e0
   have z6:L 6=false:=hre 6 (by kernel_rfl)
   obtain ⟨c0,c1⟩:=hbx z6
   refine ⟨wno rfl,Oper.wp_mono (K:=fun z x'=>z=a'.put (some 4) (.int .i64 f)∧x'=x) ?_ ?_⟩
   ·rintro z x' ⟨rfl,rfl⟩
    exact ⟨_,y,rfl,fun _ _=>rfl,hI' 1 (by decide),fun u hu=>hu (fun h=>by cases h)⟩
   ·unfold Oper.wp
    simp [go_sem,e0',c0]
  ·cases ho
   refine ⟨wno rfl,Oper.wp_mono (K:=fun z x'=>z=a'.put (some 5) (.pointer (some ⟨w.heap.size,1,none⟩))∧x'=x) ?_ ?_⟩
   ·rintro z x' ⟨rfl,rfl⟩
    exact ⟨_,y,rfl,fun _ _=>rfl,hI' 2 (by decide),fun u hu=>hu (fun h=>by cases h)⟩
   ·unfold Oper.wp
    simp [go_sem,s1]
  ·cases ho
   have e0:a'.tmps.getD 5 undef = .pointer (some ⟨w.heap.size,1,none⟩):=hp 2 (od (by kernel_rfl)) (.inr (by decide))
   have e0':a'.tmps[5]?.getD undef = .pointer (some ⟨w.heap.size,1,none⟩):=by simpa using e0
   have z6:L 6=false:=hre 6 (by kernel_rfl)
   obtain ⟨c0,c1⟩:=hbx z6
   refine ⟨wno rfl,Oper.wp_mono (K:=fun z x'=>z=a'.put (some 6) (.slice a n c)∧x'=x) ?_ ?_⟩
   ·rintro z x' ⟨rfl,rfl⟩
    exact ⟨_,y,rfl,fun _ _=>rfl,hI' 3 (by decide),fun u hu=>hu (fun h=>by cases h)⟩
   ·unfold Oper.wp
    simp [go_sem,e0',c1]
  ·cases ho
   have e3:a'.tmps.getD 6 undef = .slice a n c:=hp 3 (od (by kernel_rfl)) (.inr (by decide))
   have e3':a'.tmps[6]?.getD undef = .slice a n c:=by simpa using e3
   have z6:L 6=false:=hre 6 (by kernel_rfl)
   have hb:=hI z6
   have hbw:Bel w x:=X.out.2.2.2.trans (hb.mono X.out.2.2.2.size)
   refine ⟨wno rfl,op_callR (f:=156) (args:=#[.slice a n c]) (by simp [execOp,resolve,Deferred.ofValue,invoke,Act.eval,e3']) (C'.out x (HK.out.below hbw)) ?_⟩
   rintro e x1 ⟨⟨vs,rfl,hG,hTi⟩,q⟩
   have hs:=hb.size
   have hsW:=X.out.1
   have hb1:Bel W x1:=hb.trans (q.mono hs)
   have hG':IzG (w.heap.size+2) (.slice (some ⟨x.heap.size,0,none⟩) n n) vs ls x1 :=
    ⟨⟨hG.outer.1,hG.outer.2.imp id fun ⟨g,cap,cur,h1,h2,h3⟩=>⟨g,cap,cur,h1,Nat.le_trans (by omega) h2,h3⟩⟩,hG.len,fun i hi=>(hG.row i hi).mono (by omega),hG.apart⟩
   exact ⟨_,rfl,_,y,rfl,fun h=>absurd rfl h,(fun _=>hb1),fun u hu=>⟨x.heap.size,vs,hu (fun h=>by cases h),by rw [hu (fun h=>by cases h)];exact hG',hTi,hb1⟩⟩
  ·cases ho
   have e1:a'.tmps.getD 4 undef = .int .i64 f:=hp 1 (od (by kernel_rfl)) (.inr (by decide))
   obtain ⟨g,vs,e4,hG,hTi,hb⟩:∃ g vs,a'.tmps.getD 7 undef = .slice (some ⟨g,0,none⟩) n n∧IzG (w.heap.size+2) (a'.tmps.getD 7 undef) vs ls x∧Tight vs∧Bel W x:=hp 4 (od (by kernel_rfl)) (.inl rfl)
   have e1':a'.tmps[4]?.getD undef = .int .i64 f:=by simpa using e1
   have e4':a'.tmps[7]?.getD undef = .slice (some ⟨g,0,none⟩) n n:=by simpa using e4
   rw [e4] at hG
   refine ⟨wno rfl,Oper.wp_mono (K:=fun z x'=>z=a'.put (some 8) (.agg #[.int .i64 f,.slice (some ⟨g,0,none⟩) n n])∧x'=x) ?_ ?_⟩
   ·rintro z x' ⟨rfl,rfl⟩
    exact ⟨_,y,rfl,fun _ _=>rfl,hI' 5 (by decide),fun u hu=>⟨g,vs,hu (fun h=>by cases h),hG,hTi,hb⟩⟩
   ·unfold Oper.wp
    simp [go_sem,e1',e4']
  ·cases ho
   obtain ⟨g,vs,e5,hG,hTi,hb⟩:∃ g vs,a'.tmps.getD 8 undef = .agg #[.int .i64 f,.slice (some ⟨g,0,none⟩) n n]∧IzG (w.heap.size+2) (.slice (some ⟨g,0,none⟩) n n) vs ls x∧Tight vs∧Bel W x:=hp 5 (od (by kernel_rfl)) (.inl rfl)
   have b2:Boxed x (w.heap.size+1) #[.int .i64 0,.slice none 0 0] 44:=X.out.2.2.1.below X.out.2.2.1.under hb
   have bw:Bel w x:=X.out.2.2.2.trans (hb.mono X.out.2.2.2.size)
   exact ⟨wno rfl,wp_store_row 44 (.tmp 2) (.tmp 8) rfl (w.heap.size+1) #[.int .i64 f,.slice (some ⟨g,0,none⟩) n n] s2 e5 _ _ b2 (by kernel_rfl) rfl (by simp [Value.oneCell']) ⟨undef,y,rfl,fun _ h=>absurd rfl h,(fun z=>by simp at z),fun _ _=>⟨g,vs,setRow_heap _ _ _ _ _ _ b2,hG.other fun k hk _=>setRow_other _ _ _ _ (by omega),hTi,below_setRow bw (by omega) _⟩⟩⟩
 case last =>
  intro L a' y x hall hkp hI hp
  obtain ⟨g,vs,b,hG,hTi,hb⟩:∃ g vs,Boxed x (w.heap.size+1) #[.int .i64 f,.slice (some ⟨g,0,none⟩) n n] 44∧IzG (w.heap.size+2) (.slice (some ⟨g,0,none⟩) n n) vs ls x∧Tight vs∧Bel w x:=hp 6 (by decide) (by decide)
  have s2:a'.tmps.getD 2 undef = .pointer (some ⟨w.heap.size+1,0,none⟩):=hkp.slot 2 (by kernel_rfl)
  have kd:=hkp.defers
  clear hp hI
  go_wp2
  exact bodyPost_ret (results_cell_row Tryz.results102 _ _ (w.heap.size+1) _ _ _ _ s2 b Tryz.underlying44 rfl (by kernel_rfl)) kd (by first|exact ⟨⟨_,rfl,vs,hG,hTi⟩,hb⟩|exact ⟨⟨_,vs,rfl,hG,hTi⟩,hb⟩)
end Go.Proofs.YtmfabeghfdoibaaGreat
