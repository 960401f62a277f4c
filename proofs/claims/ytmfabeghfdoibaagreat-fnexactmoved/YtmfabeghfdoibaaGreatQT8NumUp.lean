import Derived.Test.YtmfabeghfdoibaaGreatRows
import Derived.WalkSpells
import Derived.WalkLawsBesides
import Derived.Test.YtmfabeghfdoibaaGreatQT0FrPlain
namespace Go.Proofs.YtmfabeghfdoibaaGreat
open Go.RowKit
theorem all_take_succ' (p:Int→Bool) (zs:List Int) (k:Nat) (hk:k<zs.length) :
 (zs.take (k+1)).all p=((zs.take k).all p&&p (zs[k]?.getD 0)):=by
 rw [List.take_succ_eq_append_getElem hk,List.all_append];simp [List.getElem?_eq_getElem hk]
theorem all_hit' (p:Int→Bool) (zs:List Int) (k:Nat) (hk:k<zs.length) (h:p (zs[k]?.getD 0)=false):zs.all p=false:=by
 rw [List.all_eq_false]
 exact ⟨zs[k],List.getElem_mem hk,by simp [List.getElem?_eq_getElem hk] at h;simp [h]⟩
theorem implUpTo (most:Int) (a:Option Addr) (cap:Nat) (zs:List Int) (w:World) (hbig:zs.length≤1048576) (hc:Hid (IntsAt w a zs)) :
 Calls Tryz.prog 97 #[.int .i64 most,.slice a zs.length cap] w fun e w'=>e = .returned (.bool (zs.all (inB 0 most)))∧w'=w:=by
 obtain ⟨len,hlen⟩:∃ n,zs.length=n:=⟨_,rfl⟩
 rw [hlen] at hbig ⊢
 have Hlen:Hid (zs.length=len):=hlen
 clear hlen
 go_enter Tryz.func97,Tryz.ntmps97
 go_wp2
 go_loop [9] (fun i=>∃ k:Nat,k≤len∧i = .int .i64 k∧(zs.take k).all (inB 0 most)=true) (fun i=>len-(intOf i).toNat)
 case atStart=>exact ⟨0,Nat.zero_le _,rfl,rfl⟩
 case round =>
  obtain ⟨k,hk,rfl,hall⟩:=hrel
  have Hall:Hid ((zs.take k).all (inB 0 most)=true):=hall
  clear hall
  by_cases hlt:k<len
  ·obtain ⟨b,off,ha,hb,hcell⟩:=hc.out k (by rw [Hlen.out];exact hlt)
   subst ha
   have hs:=all_take_succ' (inB 0 most) zs k (by rw [Hlen.out];exact hlt)
   have hh:=all_hit' (inB 0 most) zs k (by rw [Hlen.out];exact hlt)
   rw [Hall.out] at hs
   generalize zs[k]?.getD 0=z at hcell hs hh
   have Hs:Hid ((zs.take (k+1)).all (inB 0 most)=(true&&inB 0 most z)):=hs
   have Hh:Hid (inB 0 most z=false→zs.all (inB 0 most)=false):=hh
   clear hs hh
   by_cases z0:0≤z
   ·by_cases z1:z≤most
    ·have hok:Hid (inB 0 most z=true):=by show inB 0 most z=true;rw [inB_true];omega
     go_wp2
     go_round
     case rel=>exact ⟨k+1,by omega,by go_num,by rw [Hs.out,hok.out];rfl⟩
     case measure=>simp [intOf];omega
    ·have hok:Hid (inB 0 most z=false):=by show inB 0 most z=false;rw [inB_false];omega
     go_wp2
     go_ret
     rw [Hh.out hok.out]
     exact ⟨rfl,rfl⟩
   ·have hok:Hid (inB 0 most z=false):=by show inB 0 most z=false;rw [inB_false];omega
    go_wp2
    go_ret
    rw [Hh.out hok.out]
    exact ⟨rfl,rfl⟩
  ·go_wp2
   go_ret
   have:zs.take k=zs:=List.take_of_length_le (by rw [Hlen.out];omega)
   rw [← this,Hall.out]
   exact ⟨rfl,rfl⟩
theorem implUpTo1 (most n:Int) (w:World) (B:Nat) (hB:B=w.heap.size) :
 Calls Tryz.prog 97 #[.int .i64 most,.slice (some ⟨B,0,none⟩) 1 1] (w.alloc (.cells #[.int .i64 n] 2)) fun e w'=>e = .returned (.bool (inB 0 most n))∧w'=w.alloc (.cells #[.int .i64 n] 2):=by
 have h:=implUpTo most (some ⟨B,0,none⟩) 1 [n] (w.alloc (.cells #[.int .i64 n] 2)) (by simp) (show Hid _ from ints_new w 2 [n] #[.int .i64 n] B hB rfl)
 simpa using h
end Go.Proofs.YtmfabeghfdoibaaGreat
