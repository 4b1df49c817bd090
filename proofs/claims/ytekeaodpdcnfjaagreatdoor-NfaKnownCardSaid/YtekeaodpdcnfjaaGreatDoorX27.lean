/- Texts of the proof, put together: what it uses. -/
import Derived.Deep.RegionHeld3
import Derived.Test.YtekeaodpdcnfjaaGreatDoorX13
set_option maxRecDepth 100000
set_option maxHeartbeats 16000000
namespace Go.Proofs.YtekeaodpdcnfjaaGreatDoor
open Go.RowKit Go.Maps
def wordsN (P:Nat):Nat:=(P+63) / 64
structure EndAt (w:World) (g P:Nat) (rs:Nat→List Nat):Prop where
 outer:∃ cur:Array Value,w.heap[g]? = some (.cells cur 26 (0,0))∧cur.size=P∧∀ i,i<P→cur[i]? = some (.slice (some ⟨g+1+i,0,none⟩) (wordsN P) (wordsN P))
 rows:∀ i,i<P→RowU w (g+1+i) (rs i)
 ok:∀ i,i<P→OkW (wordsN P) (rs i)
def ValAt (w:World) (g:Nat) (bs:List Bool):Prop:=w.heap[g]? = some (.cells (bs.map Value.bool).toArray 4 (0,0))
abbrev Sl:=Option Addr×Nat×Nat
abbrev Mp:=Sl×Sl
def PartOk (w:World) (n b:Nat) (x:Sk) (p:Mp) (lo hi:Nat):Prop :=
 (x.1=true→∃ g rs,p.2=(some ⟨g,0,none⟩,n+1,n+1)∧EndAt w g (n+1) rs∧(∀ i,i≤n→∀ k,hasW (rs i) k=true↔x.2.2 i k)∧lo≤g∧g+n+1<hi) ∧
 (x.1=false→∃ g bs,p.1=(some ⟨g,0,none⟩,n+1,n+1)∧ValAt w g bs∧bs.length=n+1∧(∀ i,i≤n→(bs.getD i false=true↔x.2.1 i))∧b≤g)
def Parts (w:World) (n b:Nat):Nat→List (Sk×Mp)→Prop
 | hi,[]=>b<hi
 | hi,(x,p)::r=>∃ lo,PartOk w n b x p lo hi∧lo≤hi∧Parts w n b lo r
end Go.Proofs.YtekeaodpdcnfjaaGreatDoor
