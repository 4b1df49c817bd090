/- Texts of the proof, put together: what it uses. -/
import Derived.Test.YtekeaodpdcnfjaaGreatDoorX30
set_option maxRecDepth 100000
set_option maxHeartbeats 16000000
namespace Go.Proofs.YtekeaodpdcnfjaaGreatDoor
open Go.RowKit Go.Maps
theorem NofR.err{n:Int}{ts:List Tk}{w w':World}{e:Ending}(h:NofR n ts w e w'){E:Int}(hm:mmE n ts=E)(h0:E≠0):e=.returned (.tuple #[nilN,.int .i64 E])∧Below w.heap.size w w':=by
 rcases h with ⟨hb,⟨E1,_,rfl,h1 | ⟨h1,_⟩⟩ | ⟨T1,S1,st1,fs,rows1,M1,vS,vT,vF,vN,h1,_⟩⟩
 ·rw[hm]at h1;subst h1;exact ⟨rfl,hb⟩
 ·exact absurd (hm.symm.trans h1) h0
 ·exact absurd (hm.symm.trans h1) h0
theorem qcn{rs:List Nat}{q:Nat}(h:∀ i,i∈rs↔i∈[q])(hn:rs.Nodup):rs=[q]:=by
 cases rs with
 | nil=>exact absurd ((h q).2 (by simp)) (by simp)
 | cons a l =>
  have ha:a=q:=by simpa using (h a).1 (by simp)
  subst ha
  cases l with
  | nil=>rfl
  | cons b l =>
   have hb:b=a:=by simpa using (h b).1 (by simp)
   subst hb
   simp at hn
theorem qe1{fs:List Bool}(hl:fs.length=2)(h:∀ q,q<2→(fs.getD q false=true↔FinP [[(2,0)]] [atS [1,0] q])):fs=[false,true]:=by
 match fs,hl with
 | [a,b],_ =>
  have h1:b=true:=(h 1 (by decide)).2 (q7J _)
  have h0:a=false:=by
   cases a with
   | false=>rfl
   | true =>
    have:=(h 0 (by decide)).1 rfl
    exact absurd ((q7K kt_p0).1 this) (by decide)
  rw[h0,h1]
theorem qdg:mmE ((1:Nat):Int) [(2,1)]=2:=by
 have hc:chkE [(2,1)]=0:=q25.2 ⟨by simp,.leaf (2,1),⟨rfl,rfl⟩,rfl,rfl,rfl⟩
 unfold mmE
 rw[if_pos (by omega),if_neg (by omega),if_neg (by decide)]
theorem qdh:mmE 9 [(2,0)]=2:=by
 unfold mmE
 rw[if_neg (by omega)]
def wantW (w:World):World:=(((((((((w.alloc (.cells #[.int .u64 1,.int .u64 0] 46)).alloc (.cells #[.int .i64 0] 3)).alloc (.cells #[.bool false,.bool true] 4)).alloc (.cells #[.int .i64 1] 3)).alloc (.cells #[.slice none 0 0,.slice (some ⟨w.heap.size+1+1+1,0,none⟩) 1 1] 27)).alloc (.cells #[.int .i64 1] 3)).alloc (.cells #[.int .i64 1] 3)).alloc (.cells #[.slice (some ⟨w.heap.size+1+1+1+1+1,0,none⟩) 1 1,.slice (some ⟨w.heap.size+1+1+1+1+1+1,0,none⟩) 1 1] 27)).alloc (.cells #[.slice (some ⟨w.heap.size+1+1+1+1,0,none⟩) 2 2,.slice (some ⟨w.heap.size+1+1+1+1+1+1+1,0,none⟩) 2 2] 47))
theorem q3L(l:List Nat)(w:World)(hl:l.length≤100):ISl (w.alloc (.cells ((iU l).map (Value.int .i64)).toArray 3)) (some ⟨w.heap.size,0,none⟩) l.length l.length l :=
 SoAtI.isl (d:=(iU l).toArray) (t:=[]) (by show _=_;rw[(MapKept.heap_alloc w _).1];simp) rfl rfl (Nat.le_refl _) (by unfold maxLen;omega)
theorem qdF{w:World}{g:Nat}{bs:List Bool}{T:TypeId}(h:w.heap[g]? = some (.cells (bs.map Value.bool).toArray T (0,0)))(hl:bs.length≤100):BoSl w (some ⟨g,0,none⟩) bs.length bs.length bs:=by
 refine ⟨rfl,Nat.le_refl _,by unfold maxLen;omega,fun h=>(by cases h),fun x hx k hk=>?_⟩
 injection hx with hx
 subst hx
 rw[qh,Nat.zero_add,qb h k]
 simp[hk]
theorem q7B{w:World}{g:Nat}{vs:List Value}{T:TypeId}(h:w.heap[g]? = some (.cells vs.toArray T (0,0)))(hl:vs.length≤100):VSl w (some ⟨g,0,none⟩) vs.length vs.length vs:=by
 refine ⟨rfl,fun h=>(by cases h),by omega,fun k v hv=>?_⟩
 simp only[adOf,qh,Nat.zero_add]
 rw[qb h k]
 simpa using hv
theorem qdA(w:World):Below w.heap.size w (wantW w)∧NfAt (wantW w) (.slice (some ⟨w.heap.size,0,none⟩) 2 2) (.slice (some ⟨w.heap.size+1,0,none⟩) 1 1) (.slice (some ⟨w.heap.size+1+1,0,none⟩) 2 2) (.slice (some ⟨w.heap.size+1+1+1+1+1+1+1+1,0,none⟩) 2 2) [1,0] [0] [false,true] [[[],[1]],[[1],[1]]]:=by
 unfold wantW
 obtain ⟨W1,hW1⟩:∃ W,W=w.alloc (.cells #[.int .u64 1,.int .u64 0] 46):=⟨_,rfl⟩
 obtain ⟨W2,hW2⟩:∃ W,W=W1.alloc (.cells #[.int .i64 0] 3):=⟨_,rfl⟩
 obtain ⟨W3,hW3⟩:∃ W,W=W2.alloc (.cells #[.bool false,.bool true] 4):=⟨_,rfl⟩
 obtain ⟨W4,hW4⟩:∃ W,W=W3.alloc (.cells #[.int .i64 1] 3):=⟨_,rfl⟩
 obtain ⟨W5,hW5⟩:∃ W,W=W4.alloc (.cells #[.slice none 0 0,.slice (some ⟨w.heap.size+1+1+1,0,none⟩) 1 1] 27):=⟨_,rfl⟩
 obtain ⟨W6,hW6⟩:∃ W,W=W5.alloc (.cells #[.int .i64 1] 3):=⟨_,rfl⟩
 obtain ⟨W7,hW7⟩:∃ W,W=W6.alloc (.cells #[.int .i64 1] 3):=⟨_,rfl⟩
 obtain ⟨W8,hW8⟩:∃ W,W=W7.alloc (.cells #[.slice (some ⟨w.heap.size+1+1+1+1+1,0,none⟩) 1 1,.slice (some ⟨w.heap.size+1+1+1+1+1+1,0,none⟩) 1 1] 27):=⟨_,rfl⟩
 obtain ⟨W9,hW9⟩:∃ W,W=W8.alloc (.cells #[.slice (some ⟨w.heap.size+1+1+1+1,0,none⟩) 2 2,.slice (some ⟨w.heap.size+1+1+1+1+1+1+1,0,none⟩) 2 2] 47):=⟨_,rfl⟩
 rw[← hW1,← hW2,← hW3,← hW4,← hW5,← hW6,← hW7,← hW8,← hW9]
 have b1:Below w.heap.size w W1:=by rw[hW1];exact qc _ _
 have z1:W1.heap.size=w.heap.size+1:=by rw[hW1];simp
 have b2:Below W1.heap.size W1 W2:=by rw[hW2];exact qc _ _
 have z2:W2.heap.size=w.heap.size+1+1:=by rw[hW2];simp[z1]
 have b3:Below W2.heap.size W2 W3:=by rw[hW3];exact qc _ _
 have z3:W3.heap.size=w.heap.size+1+1+1:=by rw[hW3];simp[z2]
 have b4:Below W3.heap.size W3 W4:=by rw[hW4];exact qc _ _
 have z4:W4.heap.size=w.heap.size+1+1+1+1:=by rw[hW4];simp[z3]
 have b5:Below W4.heap.size W4 W5:=by rw[hW5];exact qc _ _
 have z5:W5.heap.size=w.heap.size+1+1+1+1+1:=by rw[hW5];simp[z4]
 have b6:Below W5.heap.size W5 W6:=by rw[hW6];exact qc _ _
 have z6:W6.heap.size=w.heap.size+1+1+1+1+1+1:=by rw[hW6];simp[z5]
 have b7:Below W6.heap.size W6 W7:=by rw[hW7];exact qc _ _
 have z7:W7.heap.size=w.heap.size+1+1+1+1+1+1+1:=by rw[hW7];simp[z6]
 have b8:Below W7.heap.size W7 W8:=by rw[hW8];exact qc _ _
 have z8:W8.heap.size=w.heap.size+1+1+1+1+1+1+1+1:=by rw[hW8];simp[z7]
 have b9:Below W8.heap.size W8 W9:=by rw[hW9];exact qc _ _
 have z9:W9.heap.size=w.heap.size+1+1+1+1+1+1+1+1+1:=by rw[hW9];simp[z8]
 have d9:Below W9.heap.size W9 W9:=Below.refl _ _
 have d8:Below W8.heap.size W8 W9:=qd b9 d9
 have d7:Below W7.heap.size W7 W9:=qd b8 d8
 have d6:Below W6.heap.size W6 W9:=qd b7 d7
 have d5:Below W5.heap.size W5 W9:=qd b6 d6
 have d4:Below W4.heap.size W4 W9:=qd b5 d5
 have d3:Below W3.heap.size W3 W9:=qd b4 d4
 have d2:Below W2.heap.size W2 W9:=qd b3 d3
 have d1:Below W1.heap.size W1 W9:=qd b2 d2
 have d0:Below w.heap.size w W9:=qd b1 d1
 have hS:USl W9 (some ⟨w.heap.size,0,none⟩) 2 2 [1,0]:=(show USl W1 (some ⟨w.heap.size,0,none⟩) 2 2 [1,0] by rw[hW1];exact q1K [1,0] w (by simp)).up d1
 have l1:LIs W9 (.slice (some ⟨w.heap.size+1,0,none⟩) 1 1) [0]:=⟨_,_,rfl,by simp,(show ISl W2 (some ⟨w.heap.size+1,0,none⟩) 1 1 [0] by rw[hW2,← z1];exact q3L [0] W1 (by simp)).up d2⟩
 have l3:LIs W9 (.slice (some ⟨w.heap.size+1+1+1,0,none⟩) 1 1) [1]:=⟨_,_,rfl,by simp,(show ISl W4 (some ⟨w.heap.size+1+1+1,0,none⟩) 1 1 [1] by rw[hW4,← z3];exact q3L [1] W3 (by simp)).up d4⟩
 have l5:LIs W9 (.slice (some ⟨w.heap.size+1+1+1+1+1,0,none⟩) 1 1) [1]:=⟨_,_,rfl,by simp,(show ISl W6 (some ⟨w.heap.size+1+1+1+1+1,0,none⟩) 1 1 [1] by rw[hW6,← z5];exact q3L [1] W5 (by simp)).up d6⟩
 have l6:LIs W9 (.slice (some ⟨w.heap.size+1+1+1+1+1+1,0,none⟩) 1 1) [1]:=⟨_,_,rfl,by simp,(show ISl W7 (some ⟨w.heap.size+1+1+1+1+1+1,0,none⟩) 1 1 [1] by rw[hW7,← z6];exact q3L [1] W6 (by simp)).up d7⟩
 have g2:W9.heap[w.heap.size+1+1]? = some (.cells #[.bool false,.bool true] 4 (0,0)):=(d3.block _ (by rw[z3];omega)).trans (by rw[hW3,← z2];exact (MapKept.heap_alloc W2 _).1)
 have g4:W9.heap[w.heap.size+1+1+1+1]? = some (.cells #[.slice none 0 0,.slice (some ⟨w.heap.size+1+1+1,0,none⟩) 1 1] 27 (0,0)):=(d5.block _ (by rw[z5];omega)).trans (by rw[hW5,← z4];exact (MapKept.heap_alloc W4 _).1)
 have g7:W9.heap[w.heap.size+1+1+1+1+1+1+1]? = some (.cells #[.slice (some ⟨w.heap.size+1+1+1+1+1,0,none⟩) 1 1,.slice (some ⟨w.heap.size+1+1+1+1+1+1,0,none⟩) 1 1] 27 (0,0)):=(d8.block _ (by rw[z8];omega)).trans (by rw[hW8,← z7];exact (MapKept.heap_alloc W7 _).1)
 have g8:W9.heap[w.heap.size+1+1+1+1+1+1+1+1]? = some (.cells #[.slice (some ⟨w.heap.size+1+1+1+1,0,none⟩) 2 2,.slice (some ⟨w.heap.size+1+1+1+1+1+1+1,0,none⟩) 2 2] 47 (0,0)):=(d9.block _ (by rw[z9];omega)).trans (by rw[hW9,← z8];exact (MapKept.heap_alloc W8 _).1)
 have l0:LIs W9 (.slice none 0 0) []:=⟨none,0,rfl,by simp,⟨rfl,Nat.le_refl _,Nat.zero_le _,fun m k w hk hm=>absurd hk (by simp at hm;omega),fun k hk=>absurd hk (by simp),fun k hk=>absurd hk (by simp),fun _=>rfl⟩⟩
 have r0:LLs W9 (.slice (some ⟨w.heap.size+1+1+1+1,0,none⟩) 2 2) [[],[1]]:=⟨_,_,[.slice none 0 0,.slice (some ⟨w.heap.size+1+1+1,0,none⟩) 1 1],rfl,q7B (vs:=[.slice none 0 0,.slice (some ⟨w.heap.size+1+1+1,0,none⟩) 1 1]) g4 (by simp),fun k l hl=>by
  match k with
  | 0=>simp at hl;subst hl;exact ⟨_,rfl,l0⟩
  | 1=>simp at hl;subst hl;exact ⟨_,rfl,l3⟩
  | k+2=>simp at hl⟩
 have r1:LLs W9 (.slice (some ⟨w.heap.size+1+1+1+1+1+1+1,0,none⟩) 2 2) [[1],[1]]:=⟨_,_,[.slice (some ⟨w.heap.size+1+1+1+1+1,0,none⟩) 1 1,.slice (some ⟨w.heap.size+1+1+1+1+1+1,0,none⟩) 1 1],rfl,q7B (vs:=[.slice (some ⟨w.heap.size+1+1+1+1+1,0,none⟩) 1 1,.slice (some ⟨w.heap.size+1+1+1+1+1+1,0,none⟩) 1 1]) g7 (by simp),fun k l hl=>by
  match k with
  | 0=>simp at hl;subst hl;exact ⟨_,rfl,l5⟩
  | 1=>simp at hl;subst hl;exact ⟨_,rfl,l6⟩
  | k+2=>simp at hl⟩
 refine ⟨d0,⟨_,_,rfl,hS⟩,l1,⟨_,_,rfl,qdF (bs:=[false,true]) g2 (by simp)⟩,⟨_,_,[.slice (some ⟨w.heap.size+1+1+1+1,0,none⟩) 2 2,.slice (some ⟨w.heap.size+1+1+1+1+1+1+1,0,none⟩) 2 2],rfl,q7B (vs:=[.slice (some ⟨w.heap.size+1+1+1+1,0,none⟩) 2 2,.slice (some ⟨w.heap.size+1+1+1+1+1+1+1,0,none⟩) 2 2]) g8 (by simp),fun k l hl=>?_⟩⟩
 match k with
 | 0=>simp at hl;subst hl;exact ⟨_,rfl,r0⟩
 | 1=>simp at hl;subst hl;exact ⟨_,rfl,r1⟩
 | k+2=>simp at hl
theorem q63(w:World)(hT:Tab64 w):Calls Tryz.prog 4 #[] w (BR true w):=by
 have HT:Hid (∀ w',Below w.heap.size w w'→Tab64 w'):=fun w' hb=>hT.up hb
 obtain ⟨w0,hw0⟩:∃ w0,w0=w.alloc (.cells #[.int .u8 2,.int .u8 0] 43):=⟨_,rfl⟩
 have b0:Below w.heap.size w w0:=by rw[hw0];exact qc _ _
 have z0:w0.heap.size=w.heap.size+1:=by rw[hw0];simp
 have hp0:w0.heap[w.heap.size]? = some (.cells #[.int .u8 2,.int .u8 0] 43 (0,0)):=by rw[hw0];exact (MapKept.heap_alloc w _).1
 obtain ⟨w1,hw1⟩:∃ w1,w1=w0.alloc (.cells #[.int .u8 2,.int .u8 0] 43):=⟨_,rfl⟩
 have b1:Below w0.heap.size w0 w1:=by rw[hw1];exact qc _ _
 have t1:TkSl w1 (some ⟨w.heap.size+1,0,none⟩) 1 1 [(2,0)]:=by rw[← z0,hw1];exact q30 [(2,0)] w0 (by decide) (by decide)
 have hb1:=qd b0 b1
 have j1:=q1F 1 _ _ _ _ w1 t1 (HT.out w1 hb1)
 have HB1:Hid _:=hb1
 have HW0:Hid _:=hw0
 have HW1:Hid _:=hw1
 have HP1:Hid (w1.heap[w.heap.size]? = some (.cells #[.int .u8 2,.int .u8 0] 43 (0,0))):=(b1.block _ (by omega)).trans hp0
 have k0:w0.cell? ⟨w.heap.size,0,none⟩=some (.int .u8 2):=qb hp0 0
 have k1:w0.cell? ⟨w.heap.size,1,none⟩=some (.int .u8 0):=qb hp0 1
 have HO1:Hid (∀ e w',NofR 1 [(2,0)] w1 e w'→∃ vS vT vF vN,e=.returned (.tuple #[nfV 1 vS vT vF vN,.int .i64 0])∧NfAt w' vS vT vF vN [1,0] [0] [false,true] [[[],[1]],[[1],[1]]]∧NfK 1 [1,0] [0] [false,true] [[[],[1]],[[1],[1]]]∧Below w1.heap.size w1 w'):=fun e w' h=>by
  obtain ⟨vS,vT,vF,vN,fs,he,hN,hK,hfin,hb⟩:=NofR.known (n:=1) h kt_p0 rfl (q53 kt_p0 rfl (by decide) (by decide) (by decide)) nk1
  have:=qe1 hK.fl hfin
  subst this
  exact ⟨vS,vT,vF,vN,he,hN,hK,hb⟩
 clear hT hw0 hw1 b0 b1 z0 hp0 t1 hb1
 go_enter Tryz.func4,Tryz.ntmps4
 go_wp2_with fail
 rw[← HW0.out,← HW1.out]
 refine j1.mono ?_
 intro e w2 hq
 obtain ⟨vS,vT,vF,vN,rfl,hN,hK,hb2⟩:=HO1.out e w2 hq
 obtain ⟨aS,cS,rfl,-⟩:=hN.s
 obtain ⟨aT,cT,hvT,-⟩:=hN.t
 subst hvT
 obtain ⟨aF,cF,rfl,-⟩:=hN.f
 obtain ⟨aN,cN,us,rfl,-⟩:=hN.nx
 have HK:Hid _:=hK
 obtain ⟨x2,hx2⟩:∃ x2,x2=w2.alloc (.cells #[.int .i64 1,.slice aS 2 cS,.slice aT 1 cT,.slice aF 2 cF,.slice aN 2 cN] 31 (0,0)):=⟨_,rfl⟩
 have bx2:Below w2.heap.size w2 x2:=by rw[hx2];exact qc _ _
 have zx2:x2.heap.size=w2.heap.size+1:=by rw[hx2];simp
 have na2:NfB x2 w2.heap.size 1 aS 2 cS aT 1 cT aF 2 cF aN 2 cN:=by rw[hx2];exact q1j w2 1 aS 2 cS aT 1 cT aF 2 cF aN 2 cN
 have s2:=qd hb2 bx2
 have HB2:Hid (Below w.heap.size w x2):=qd HB1.out s2
 have HP2:Hid (x2.heap[w.heap.size]? = some (.cells #[.int .u8 2,.int .u8 0] 43 (0,0))):=(s2.block _ (Array.getElem?_eq_some_iff.1 HP1.out).1).trans HP1.out
 have HA2:Hid (NfAt x2 (.slice aS 2 cS) (.slice aT 1 cT) (.slice aF 2 cF) (.slice aN 2 cN) [1,0] [0] [false,true] [[[],[1]],[[1],[1]]]):=hN.up bx2
 have HN2:Hid _:=na2
 have HX2:Hid _:=hx2
 obtain ⟨y3,hy3⟩:∃ y3,y3=x2.alloc (.cells #[.int .u8 1,.int .u8 0] 43):=⟨_,rfl⟩
 have by3:Below x2.heap.size x2 y3:=by rw[hy3];exact qc _ _
 have ty3:TkSl y3 (some ⟨w2.heap.size+1,0,none⟩) 1 1 [(1,0)]:=by rw[← zx2,hy3];exact q30 [(1,0)] x2 (by decide) (by decide)
 have j3:=q1F 0 _ _ _ _ y3 ty3 (HT.out y3 (qd HB2.out by3))
 have HO3:Hid (∀ e w',NofR 0 [(1,0)] y3 e w'→∃ vS vT vF vN,e=.returned (.tuple #[nfV 0 vS vT vF vN,.int .i64 0])∧(∃ a c,vS=.slice a 0 c)∧IsSl vT∧IsSl vF∧IsSl vN∧Below x2.heap.size x2 w'):=fun e w' h=>by
  obtain ⟨vS,vT,vF,vN,fs,he,hN,hK,hfin,hb⟩:=NofR.known (n:=0) h qbp rfl (q53 qbp rfl (by decide) (by decide) (by decide)) nk2
  obtain ⟨a1,c1,h1,-⟩:=hN.s
  obtain ⟨a2,c2,h2,-⟩:=hN.t
  obtain ⟨a3,c3,h3,-⟩:=hN.f
  obtain ⟨a4,c4,us4,h4,-⟩:=hN.nx
  exact ⟨vS,vT,vF,vN,he,⟨a1,c1,h1⟩,⟨_,_,_,h2⟩,⟨_,_,_,h3⟩,⟨_,_,_,h4⟩,by3.trans (hb.mono by3.size)⟩
 have HY3:Hid _:=hy3
 clear j1 hq hN hK hb2 hx2 bx2 na2 s2 hy3 by3 ty3 zx2 HB1 HP1 HO1 k0 k1
 unfold nfV at *
 dsimp only[List.length_cons,List.length_nil,Nat.reduceAdd]at *
 go_wp2_with fail
 rw[← HX2.out,← HY3.out]
 refine j3.mono ?_
 intro e w4 hq
 obtain ⟨vS,vT,vF,vN,rfl,⟨bS,dS,rfl⟩,⟨bT,nT,dT,rfl⟩,⟨bF,nF,dF,rfl⟩,⟨bN,nN,dN,rfl⟩,hb4⟩:=HO3.out e w4 hq
 obtain ⟨x4,hx4⟩:∃ x4,x4=w4.alloc (.cells #[.int .i64 0,.slice bS 0 dS,.slice bT nT dT,.slice bF nF dF,.slice bN nN dN] 31 (0,0)):=⟨_,rfl⟩
 have bx4:Below w4.heap.size w4 x4:=by rw[hx4];exact qc _ _
 have zx4:x4.heap.size=w4.heap.size+1:=by rw[hx4];simp
 have nb4:NfB x4 w4.heap.size 0 bS 0 dS bT nT dT bF nF dF bN nN dN:=by rw[hx4];exact q1j w4 0 bS 0 dS bT nT dT bF nF dF bN nN dN
 have s4:=qd hb4 bx4
 have HB4:Hid (Below w.heap.size w x4):=qd HB2.out s4
 have HP4:Hid (x4.heap[w.heap.size]? = some (.cells #[.int .u8 2,.int .u8 0] 43 (0,0))):=(s4.block _ (Array.getElem?_eq_some_iff.1 HP2.out).1).trans HP2.out
 have HA4:Hid (NfAt x4 (.slice aS 2 cS) (.slice aT 1 cT) (.slice aF 2 cF) (.slice aN 2 cN) [1,0] [0] [false,true] [[[],[1]],[[1],[1]]]):=HA2.out.up s4
 have HN4:Hid (NfB x4 w2.heap.size 1 aS 2 cS aT 1 cT aF 2 cF aN 2 cN):=HN2.out.up s4
 have HM4:Hid (NfB x4 w4.heap.size 0 bS 0 dS bT nT dT bF nF dF bN nN dN):=nb4
 have HX4:Hid _:=hx4
 have m0:x4.cell? ⟨w.heap.size,0,none⟩=some (.int .u8 2):=qb HP4.out 0
 have m1:x4.cell? ⟨w.heap.size,1,none⟩=some (.int .u8 0):=qb HP4.out 1
 rw[hx4]at m0 m1
 obtain ⟨y5,hy5⟩:∃ y5,y5=x4.alloc (.cells #[.int .u8 2,.int .u8 0,.int .u8 7,.int .u8 0] 43):=⟨_,rfl⟩
 have by5:Below x4.heap.size x4 y5:=by rw[hy5];exact qc _ _
 have ty5:TkSl y5 (some ⟨w4.heap.size+1,0,none⟩) 2 2 [(2,0),(7,0)]:=by rw[← zx4,hy5];exact q30 [(2,0),(7,0)] x4 (by decide) (by decide)
 have j5:=q1F 1 _ _ _ _ y5 ty5 (HT.out y5 (qd HB4.out by5))
 have HO5:Hid (∀ e w',NofR 1 [(2,0),(7,0)] y5 e w'→∃ vS vT vF vN,e=.returned (.tuple #[nfV 1 vS vT vF vN,.int .i64 0])∧(∃ a c,vS=.slice a 3 c∧USl w' a 3 c [1,6,0])∧IsSl vT∧IsSl vF∧IsSl vN∧Below x4.heap.size x4 w'):=fun e w' h=>by
  obtain ⟨vS,vT,vF,vN,fs,he,hN,hK,hfin,hb⟩:=NofR.known (n:=1) h qbq rfl (q53 qbq rfl (by decide) (by decide) (by decide)) nk3
  obtain ⟨a2,c2,h2,-⟩:=hN.t
  obtain ⟨a3,c3,h3,-⟩:=hN.f
  obtain ⟨a4,c4,us4,h4,-⟩:=hN.nx
  exact ⟨vS,vT,vF,vN,he,hN.s,⟨_,_,_,h2⟩,⟨_,_,_,h3⟩,⟨_,_,_,h4⟩,by5.trans (hb.mono by5.size)⟩
 have HY5:Hid _:=hy5
 clear j3 hq hb4 hx4 bx4 nb4 s4 hy5 by5 ty5 zx4 HB2 HP2 HA2 HN2 HO3
 unfold nfV at *
 go_wp2_with fail
 rw[← HX4.out,← HY5.out]
 refine j5.mono ?_
 intro e w6 hq
 obtain ⟨vS,vT,vF,vN,rfl,⟨eS,fS,rfl,hU⟩,⟨eT,mT,fT,rfl⟩,⟨eF,mF,fF,rfl⟩,⟨eN,mN,fN,rfl⟩,hb6⟩:=HO5.out e w6 hq
 obtain ⟨x6,hx6⟩:∃ x6,x6=w6.alloc (.cells #[.int .i64 1,.slice eS 3 fS,.slice eT mT fT,.slice eF mF fF,.slice eN mN fN] 31 (0,0)):=⟨_,rfl⟩
 have bx6:Below w6.heap.size w6 x6:=by rw[hx6];exact qc _ _
 have zx6:x6.heap.size=w6.heap.size+1:=by rw[hx6];simp
 have nb6:NfB x6 w6.heap.size 1 eS 3 fS eT mT fT eF mF fF eN mN fN:=by rw[hx6];exact q1j w6 1 eS 3 fS eT mT fT eF mF fF eN mN fN
 have s6:=qd hb6 bx6
 have HB6:Hid (Below w.heap.size w x6):=qd HB4.out s6
 have HP6:Hid (x6.heap[w.heap.size]? = some (.cells #[.int .u8 2,.int .u8 0] 43 (0,0))):=(s6.block _ (Array.getElem?_eq_some_iff.1 HP4.out).1).trans HP4.out
 have HA6:Hid (NfAt x6 (.slice aS 2 cS) (.slice aT 1 cT) (.slice aF 2 cF) (.slice aN 2 cN) [1,0] [0] [false,true] [[[],[1]],[[1],[1]]]):=HA4.out.up s6
 have HN6:Hid (NfB x6 w2.heap.size 1 aS 2 cS aT 1 cT aF 2 cF aN 2 cN):=HN4.out.up s6
 have HM6:Hid (NfB x6 w4.heap.size 0 bS 0 dS bT nT dT bF nF dF bN nN dN):=HM4.out.up s6
 have HC6:Hid (NfB x6 w6.heap.size 1 eS 3 fS eT mT fT eF mF fF eN mN fN):=nb6
 have HU6:Hid (USl x6 eS 3 fS [1,6,0]):=hU.up bx6
 have HX6:Hid _:=hx6
 obtain ⟨y7,hy7⟩:∃ y7,y7=x6.alloc (.cells #[.int .u8 2,.int .u8 1] 43):=⟨_,rfl⟩
 have by7:Below x6.heap.size x6 y7:=by rw[hy7];exact qc _ _
 have ty7:TkSl y7 (some ⟨w6.heap.size+1,0,none⟩) 1 1 [(2,1)]:=by rw[← zx6,hy7];exact q30 [(2,1)] x6 (by decide) (by decide)
 have j7:=q1F 1 _ _ _ _ y7 ty7 (HT.out y7 (qd HB6.out by7))
 have HO7:Hid (∀ e w',NofR 1 [(2,1)] y7 e w'→e=.returned (.tuple #[nilN,.int .i64 2])∧Below x6.heap.size x6 w'):=fun e w' h=>(h.err qdg (by decide)).imp id fun hb=>by7.trans (hb.mono by7.size)
 have HY7:Hid _:=hy7
 clear j5 hq hb6 hx6 bx6 nb6 s6 hy7 by7 ty7 zx6 hU HB4 HP4 HA4 HN4 HM4 HO5 m0 m1
 go_wp2_with fail
 rw[← HX6.out,← HY7.out]
 refine j7.mono ?_
 intro e w8 hq
 obtain ⟨rfl,hb8⟩:=HO7.out e w8 hq
 obtain ⟨x8,hx8⟩:∃ x8,x8=w8.alloc (.cells #[.int .i64 0,.slice none 0 0,.slice none 0 0,.slice none 0 0,.slice none 0 0] 31 (0,0)):=⟨_,rfl⟩
 have bx8:Below w8.heap.size w8 x8:=by rw[hx8];exact qc _ _
 have zx8:x8.heap.size=w8.heap.size+1:=by rw[hx8];simp
 have s8:=qd hb8 bx8
 have HB8:Hid (Below w.heap.size w x8):=qd HB6.out s8
 have HP8:Hid (x8.heap[w.heap.size]? = some (.cells #[.int .u8 2,.int .u8 0] 43 (0,0))):=(s8.block _ (Array.getElem?_eq_some_iff.1 HP6.out).1).trans HP6.out
 have HA8:Hid (NfAt x8 (.slice aS 2 cS) (.slice aT 1 cT) (.slice aF 2 cF) (.slice aN 2 cN) [1,0] [0] [false,true] [[[],[1]],[[1],[1]]]):=HA6.out.up s8
 have HN8:Hid (NfB x8 w2.heap.size 1 aS 2 cS aT 1 cT aF 2 cF aN 2 cN):=HN6.out.up s8
 have HM8:Hid (NfB x8 w4.heap.size 0 bS 0 dS bT nT dT bF nF dF bN nN dN):=HM6.out.up s8
 have HC8:Hid (NfB x8 w6.heap.size 1 eS 3 fS eT mT fT eF mF fF eN mN fN):=HC6.out.up s8
 have HU8:Hid (USl x8 eS 3 fS [1,6,0]):=HU6.out.up s8
 have HX8:Hid _:=hx8
 have m0:x8.cell? ⟨w.heap.size,0,none⟩=some (.int .u8 2):=qb HP8.out 0
 have m1:x8.cell? ⟨w.heap.size,1,none⟩=some (.int .u8 0):=qb HP8.out 1
 rw[hx8]at m0 m1
 obtain ⟨y9,hy9⟩:∃ y9,y9=x8.alloc (.cells #[.int .u8 2,.int .u8 0] 43):=⟨_,rfl⟩
 have by9:Below x8.heap.size x8 y9:=by rw[hy9];exact qc _ _
 have ty9:TkSl y9 (some ⟨w8.heap.size+1,0,none⟩) 1 1 [(2,0)]:=by rw[← zx8,hy9];exact q30 [(2,0)] x8 (by decide) (by decide)
 have j9:=q1F 9 _ _ _ _ y9 ty9 (HT.out y9 (qd HB8.out by9))
 have HO9:Hid (∀ e w',NofR 9 [(2,0)] y9 e w'→e=.returned (.tuple #[nilN,.int .i64 2])∧Below x8.heap.size x8 w'):=fun e w' h=>(h.err qdh (by decide)).imp id fun hb=>by9.trans (hb.mono by9.size)
 have HY9:Hid _:=hy9
 clear j7 hq hb8 hx8 bx8 s8 hy9 by9 ty9 zx8 HB6 HP6 HA6 HN6 HM6 HC6 HU6 HO7
 unfold nilN nfV
 go_wp2_with fail
 rw[← HX8.out,← HY9.out]
 refine j9.mono ?_
 intro e wA hq
 obtain ⟨rfl,hbA⟩:=HO9.out e wA hq
 obtain ⟨xA,hxA⟩:∃ xA,xA=wA.alloc (.cells #[.int .i64 0,.slice none 0 0,.slice none 0 0,.slice none 0 0,.slice none 0 0] 31 (0,0)):=⟨_,rfl⟩
 have bxA:Below wA.heap.size wA xA:=by rw[hxA];exact qc _ _
 have zxA:xA.heap.size=wA.heap.size+1:=by rw[hxA];simp
 have sA:=qd hbA bxA
 have HBA:Hid (Below w.heap.size w xA):=qd HB8.out sA
 have HPA:Hid (xA.heap[w.heap.size]? = some (.cells #[.int .u8 2,.int .u8 0] 43 (0,0))):=(sA.block _ (Array.getElem?_eq_some_iff.1 HP8.out).1).trans HP8.out
 have HAA:Hid (NfAt xA (.slice aS 2 cS) (.slice aT 1 cT) (.slice aF 2 cF) (.slice aN 2 cN) [1,0] [0] [false,true] [[[],[1]],[[1],[1]]]):=HA8.out.up sA
 have HNA:Hid (NfB xA w2.heap.size 1 aS 2 cS aT 1 cT aF 2 cF aN 2 cN):=HN8.out.up sA
 have HMA:Hid (NfB xA w4.heap.size 0 bS 0 dS bT nT dT bF nF dF bN nN dN):=HM8.out.up sA
 have HCA:Hid (NfB xA w6.heap.size 1 eS 3 fS eT mT fT eF mF fF eN mN fN):=HC8.out.up sA
 have HUA:Hid (USl xA eS 3 fS [1,6,0]):=HU8.out.up sA
 have HXA:Hid _:=hxA
 obtain ⟨c0,c1,c2,c3,c4⟩:=HNA.out
 rw[hxA]at c0 c1 c2 c3 c4
 have byB:=qc xA (.cells #[.int .u8 1,.int .u8 0] 25)
 have lB:LtSl (xA.alloc (.cells #[.int .u8 1,.int .u8 0] 25)) (some ⟨wA.heap.size+1,0,none⟩) 2 2 [1,0]:=by rw[← zxA];exact q3t [1,0] xA (by decide) (by decide)
 have jB:=q4x 1 _ _ _ _ [1,0] [0] [false,true] [[[],[1]],[[1],[1]]] _ 2 2 [1,0] _ (HAA.out.up byB) HK.out lB (by decide) (by decide)
 have HOB:Hid (∀ e w',RuR (nxR [[[],[1]],[[1],[1]]]) [0] (zN [1,0]) (xA.alloc (.cells #[.int .u8 1,.int .u8 0] 25)) e w'→∃ a c,e=.returned (.tuple #[.slice a 1 c,.int .i64 0])∧ISl w' a 1 c [1]∧Below xA.heap.size xA w'):=fun e w' h=>by
  obtain ⟨a,c,rs,he,hI,hm,hnd,_,hb⟩:=h
  have:rs=[1]:=qcn (fun i=>by rw[hm i];exact Iff.rfl) hnd
  subst this
  exact ⟨a,c,he,hI,byB.trans (hb.mono byB.size)⟩
 clear j9 hq hbA hxA bxA sA byB lB zxA HB8 HP8 HA8 HN8 HM8 HC8 HU8 HO9 m0 m1
 unfold nilN nfV
 unfold nfV at jB
 go_wp2_with fail
 rw[← HXA.out]
 refine jB.mono ?_
 intro e wC hq
 obtain ⟨ra,rc,rfl,hI,hbC⟩:=HOB.out e wC hq
 have HBC:Hid (Below w.heap.size w wC):=qd HBA.out hbC
 have HPC:Hid (wC.heap[w.heap.size]? = some (.cells #[.int .u8 2,.int .u8 0] 43 (0,0))):=(hbC.block _ (Array.getElem?_eq_some_iff.1 HPA.out).1).trans HPA.out
 have HAC:Hid (NfAt wC (.slice aS 2 cS) (.slice aT 1 cT) (.slice aF 2 cF) (.slice aN 2 cN) [1,0] [0] [false,true] [[[],[1]],[[1],[1]]]):=HAA.out.up hbC
 have HNC:Hid (NfB wC w2.heap.size 1 aS 2 cS aT 1 cT aF 2 cF aN 2 cN):=HNA.out.up hbC
 have HMC:Hid (NfB wC w4.heap.size 0 bS 0 dS bT nT dT bF nF dF bN nN dN):=HMA.out.up hbC
 have HCC:Hid (NfB wC w6.heap.size 1 eS 3 fS eT mT fT eF mF fF eN mN fN):=HCA.out.up hbC
 have HUC:Hid (USl wC eS 3 fS [1,6,0]):=HUA.out.up hbC
 have HIC:Hid _:=hI
 clear jB hq hI hbC HBA HPA HAA HNA HMA HCA HUA HOB c0 c1 c2 c3 c4
 obtain ⟨hbW,hNW⟩:=qdA wC
 have zW:(wantW wC).heap.size=wC.heap.size+1+1+1+1+1+1+1+1+1:=by unfold wantW;simp
 obtain ⟨xD,hxD⟩:∃ xD,xD=(wantW wC).alloc (.cells #[.int .i64 1,.slice (some ⟨wC.heap.size,0,none⟩) 2 2,.slice (some ⟨wC.heap.size+1,0,none⟩) 1 1,.slice (some ⟨wC.heap.size+1+1,0,none⟩) 2 2,.slice (some ⟨wC.heap.size+1+1+1+1+1+1+1+1,0,none⟩) 2 2] 31 (0,0)):=⟨_,rfl⟩
 have bxD:Below (wantW wC).heap.size (wantW wC) xD:=by rw[hxD];exact qc _ _
 have nbD:NfB xD (wC.heap.size+1+1+1+1+1+1+1+1+1) 1 (some ⟨wC.heap.size,0,none⟩) 2 2 (some ⟨wC.heap.size+1,0,none⟩) 1 1 (some ⟨wC.heap.size+1+1,0,none⟩) 2 2 (some ⟨wC.heap.size+1+1+1+1+1+1+1+1,0,none⟩) 2 2:=by rw[← zW,hxD];exact q1j (wantW wC) 1 (some ⟨wC.heap.size,0,none⟩) 2 2 (some ⟨wC.heap.size+1,0,none⟩) 1 1 (some ⟨wC.heap.size+1+1,0,none⟩) 2 2 (some ⟨wC.heap.size+1+1+1+1+1+1+1+1,0,none⟩) 2 2
 have sD:=qd hbW bxD
 have HBD:Hid (Below w.heap.size w xD):=qd HBC.out sD
 have jD:=q62 xD (HT.out xD HBD.out)
 have HXD:Hid _:=hxD
 have HSD:Hid _:=sD
 have HND:Hid _:=nbD
 have HWD:Hid _:=hNW.up bxD
 clear hbW hNW zW hxD bxD nbD sD
 unfold wantW at HXD
 go_wp2_with fail
 rw[← HXD.out]
 refine jD.mono ?_
 rintro e wE ⟨rfl,hbE⟩
 have sE:=qd HSD.out hbE
 have HBE:Hid _:=qd HBD.out hbE
 have jS:=q6S 1 _ _ _ _ _ _ _ _ [1,0] [0] [false,true] [[[],[1]],[[1],[1]]] wE (HAC.out.up sE) (HWD.out.up hbE) (by decide)
 obtain ⟨c0,c1,c2,c3,c4⟩:=HNC.out.up sE
 obtain ⟨e0,e1,e2,e3,e4⟩:=HND.out.up hbE
 have HSE:Hid _:=sE
 clear jD hbE sE
 unfold nfV at jS
 go_wp2_with fail
 refine jS.mono ?_
 rintro e wF ⟨rfl,hbF⟩
 have sF:=qd HSE.out hbF
 have HBF:Hid _:=qd HBE.out hbF
 have q1:=(HMC.out.up sF).c1
 have q2:=(HCC.out.up sF).c1
 have hUF:=HUC.out.up sF
 have i0:∀ w',(Instr.indexAt 26 (.slice eS 3 fS) (.int .i64 0)).run Tryz.prog w'=.ok (.pointer (some (adOf eS 0))) w':=fun w'=>hUF.idx 3 0 w' (by omega) (by omega)
 have i1:∀ w',(Instr.indexAt 26 (.slice eS 3 fS) (.int .i64 1)).run Tryz.prog w'=.ok (.pointer (some (adOf eS 1))) w':=fun w'=>hUF.idx 3 1 w' (by omega) (by omega)
 have i2:∀ w',(Instr.indexAt 26 (.slice eS 3 fS) (.int .i64 2)).run Tryz.prog w'=.ok (.pointer (some (adOf eS 2))) w':=fun w'=>hUF.idx 3 2 w' (by omega) (by omega)
 have u0:wF.cell? (adOf eS 0)=some (.int .u64 1):=hUF.cell 0 (by omega)
 have u1:wF.cell? (adOf eS 1)=some (.int .u64 6):=hUF.cell 1 (by omega)
 have u2:wF.cell? (adOf eS 2)=some (.int .u64 0):=hUF.cell 2 (by omega)
 have bG:=qc wF (.cells #[.int .i64 1] 3)
 have jI0:=q2s ra 1 rc _ _ 1 1 _ _ ((HIC.out.up sF).up bG) (q3L [1] wF (by simp))
 rw[decide_eq_true rfl]at jI0
 have jI:Calls Tryz.prog 12 #[.slice ra 1 rc,.slice (some ⟨wF.heap.size,0,none⟩) 1 1] (wF.alloc (.cells #[.int .i64 1] 3)) fun e w'=>e=.returned (.bool true)∧Below w.heap.size w w':=jI0.mono fun e w' ⟨h1,n,hn⟩=>⟨h1,qd (qd HBF.out bG) (by rw[hn];exact q1W _ _)⟩
 clear jS hbF sF hUF bG jI0 c0 c1 c2 c3 c4 e0 e1 e2 e3 e4
 generalize adOf eS 0=p0 at *
 obtain ⟨g0,o0,s0⟩:=p0
 generalize adOf eS 1=p1 at *
 obtain ⟨g1,o1,s1⟩:=p1
 generalize adOf eS 2=p2 at *
 obtain ⟨g2,o2,s2⟩:=p2
 go_wp2_with fail
 refine jI.mono ?_
 rintro e wG ⟨rfl,hbG⟩
 have HBG:Hid _:=hbG
 clear jI hbG
 go_wp2
 go_ret
 exact ⟨rfl,HBG.out⟩
end Go.Proofs.YtekeaodpdcnfjaaGreatDoor
