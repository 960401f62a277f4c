import Derived.Test.YtmfabeghfdoibaaGreatRows
import Derived.WalkKit
namespace Go.Proofs.YtmfabeghfdoibaaGreat
abbrev gz:Array Value:=#[.int .i64 0,.int .i64 0,.int .i64 0,.slice none 0 0,.slice none 0 0,.slice none 0 0,.slice none 0 0,.int .i64 0,.slice none 0 0,.slice none 0 0,.int .i64 0,.slice none 0 0,.int .i64 0,.int .i64 0]
abbrev gc (a b c:Int) (d e f g:Value) (h:Int) (i j:Value) (k:Int) (l:Value) (m n:Int):Array Value:=#[.int .i64 a,.int .i64 b,.int .i64 c,d,e,f,g,.int .i64 h,i,j,.int .i64 k,l,.int .i64 m,.int .i64 n]
end Go.Proofs.YtmfabeghfdoibaaGreat
