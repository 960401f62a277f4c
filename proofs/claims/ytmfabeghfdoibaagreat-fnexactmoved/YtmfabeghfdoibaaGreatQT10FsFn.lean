import Derived.Test.YtmfabeghfdoibaaGreatQT4FsPlain
namespace Go.Proofs.YtmfabeghfdoibaaGreat
open Go.RowKit
def szAt (l:List Int) (j:Nat):Int:=l[j]?.getD 0
def Fw.ok (x:Fw):Bool:=inB 1 10 x.weight&&(inB 0 1125899906842624 x.finish&&(inB 0 40 (x.sizes.length:Int)&&x.sizes.all (inB 1 2000)))
def Fs.ok (f:Fs):Bool:=inB 0 1125899906842624 f.now&&(inB 1 8 (f.flows.length:Int)&&f.flows.all Fw.ok)
end Go.Proofs.YtmfabeghfdoibaaGreat
