/- Stage 10's laws of the landed package. -/
import Derived.Test.YtllcjmaecgfijaaWSt5
namespace Go.Proofs.Ytllcjmaecgfijaa
open Go.RowKit Go.Maps

theorem Try.setsMean_all (a : Option Addr) (n c : Nat) (A : List Nat) (b : Option Addr) (m d : Nat) (B : List Nat) (h : Nat) (w : World) (hA : USl w a n c A) (sA : Sm A) (hB : USl w b m d B) (sB : Sm B) (hh : h < 2 ^ 64) :
    Calls Try.prog 4 #[.slice a n c, .slice b m d, .int .u64 (h : Int)] w (BR true w) := Try.setsMean_any Try.setC a n c A b m d B h w hA hB sA sB hh
theorem Try.setsRing_all (a : Option Addr) (n c : Nat) (A : List Nat) (b : Option Addr) (m d : Nat) (B : List Nat) (f : Option Addr) (k g : Nat) (F : List Nat) (w : World) (hA : USl w a n c A) (sA : Sm A) (hB : USl w b m d B) (sB : Sm B) (hF : USl w f k g F) (sF : Sm F) :
    Calls Try.prog 5 #[.slice a n c, .slice b m d, .slice f k g] w (BR true w) := Try.setsRing_any Try.setC a n c A b m d B f k g F w hA hB hF sA sB sF
theorem Try.setsOrder_all (a : Option Addr) (n c : Nat) (L : List Nat) (b : Option Addr) (m d : Nat) (zs : List Int) (w : World) (hA : USl w a n c L) (sA : Sm L) (hZ : IntSl Try.prog 39 .i64 w b m d zs) :
    Calls Try.prog 6 #[.slice a n c, .slice b m d] w (BR true w) := Try.setsOrder_any Try.setC a n c L b m d zs w hA sA hZ
end Go.Proofs.Ytllcjmaecgfijaa
