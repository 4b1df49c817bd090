/- Texts of the proof, put together: what it uses. -/
import Derived.Laws.Bits64b
import Derived.Lib.AppendZerosOnto
import Derived.Lib.LazyBuf
import Derived.Laws.BitsAllLaws
import Derived.Deep.RegionHeld3
import Derived.Test.YtejekdenpefoiaaGreatDoorY01
import Derived.Test.YtejekdenpefoiaaGreatDoorY02
import Derived.Test.YtejekdenpefoiaaGreatDoorY03
import Derived.Test.YtejekdenpefoiaaGreatDoorY04
import Derived.Test.YtejekdenpefoiaaGreatDoorY05
set_option maxRecDepth 100000
set_option maxHeartbeats 16000000
namespace Go.Proofs.YtejekdenpefoiaaGreatDoor
open Go.RowKit Go.Maps
open Go.Sort (swp PermIn SortedIn xorNextN bitsLen)
def XB (w : World) (rb X : Nat) : Prop := w.heap[rb]? = some (.cells #[.int .u64 (X : Int)] 197 (0,0))
theorem XB.ne {w : World} {g rb X : Nat} {d : Array Int} {t : List Int} (h : XB w rb X) (k : SoAt w g d t) : g ≠ rb := fun e => by
 unfold XB at h
 unfold SoAt at k
 rw [← e,k] at h
 injection h with h
 injection h with _ h _
 exact absurd h (by decide)
theorem q87 (rb X : Nat) (hX : X < 18446744073709551616) (w : World) (h : XB w rb X) :
  Calls Tryz.prog 154 #[.pointer (some ⟨rb,0,none⟩)] w fun e w' => ∃ Y : Nat,e = .returned (.int .u64 (Y : Int)) ∧ Y < 18446744073709551616 ∧ XB w' rb Y ∧ w.grownBy w' (some rb) := by
 refine (AnyF.xorshift_Next q8Y rb 0 X hX w (qb h 0) (frozen_of_row w rb 0 _ _ h)).mono ?_
 rintro e w' ⟨rfl,rfl⟩
 refine ⟨xorNextN X,rfl,Go.Sort.xorNextN_lt X hX,?_,qj (qm (World.grownBy.refl _ _) _) _⟩
 have hs : XB (w.setCell ⟨rb,0,none⟩ (.int .u64 ((xorNextN X : Nat) : Int))) rb (xorNextN X) := by
  unfold XB
  rw [heap_setCell_same _ rb 0 _ _ _ h]; rfl
 exact ((below_drewN (Below.refl _ (w.setCell ⟨rb,0,none⟩ (.int .u64 ((xorNextN X : Nat) : Int)))) 3).block rb (Array.getElem?_eq_some_iff.1 hs).1).trans hs
theorem qdT {L : Nat} (h : 0 < L) : 1 ≤ 1 <<< bitsLen L ∧ 1 <<< bitsLen L ≤ 2 * L := by
 unfold bitsLen
 rw [if_neg (by omega),Nat.shiftLeft_eq,Nat.one_mul,Nat.pow_succ]
 have h1 := Nat.log2_self_le (n := L) (by omega)
 have h2 := Nat.two_pow_pos L.log2
 omega
theorem q6Z (g c a b : Nat) (d : Array Int) (t : List Int) (w : World) (h : SoAt w g d t) (hab : a + 12 < b) (hb : b ≤ d.size) (hn : d.size ≤ 1000000) :
  Calls Tryz.prog 139 #[.slice (some ⟨g,0,none⟩) d.size c,.int .i64 (a : Int),.int .i64 (b : Int)] w fun e w' => e = .returned (.tuple #[]) ∧ ∃ d',PermIn a b d d' ∧ d'.size = d.size ∧ SoAt w' g d' t ∧ w.grownBy w' (some g) := by
 obtain ⟨N,hN⟩ : ∃ N,d.size = N := ⟨_,rfl⟩
 obtain ⟨L,hL⟩ : ∃ L,L = b - a := ⟨_,rfl⟩
 obtain ⟨T,hT⟩ : ∃ T,T = L / 4 := ⟨_,rfl⟩
 obtain ⟨T2,hT2⟩ : ∃ T2,T2 = T * 2 := ⟨_,rfl⟩
 obtain ⟨J,hJ⟩ : ∃ J,J = a + T2 := ⟨_,rfl⟩
 obtain ⟨J0,hJ0⟩ : ∃ J0,J0 = J - 1 := ⟨_,rfl⟩
 obtain ⟨J1,hJ1⟩ : ∃ J1,J1 = J + 1 := ⟨_,rfl⟩
 obtain ⟨M,hM⟩ : ∃ M,M = 1 <<< bitsLen L := ⟨_,rfl⟩
 obtain ⟨M1,hM1⟩ : ∃ M1,M1 = M - 1 := ⟨_,rfl⟩
 have hpw := qdT (L := L) (by omega)
 rw [← hM] at hpw
 have HS0 : Hid (SoAt w g d t) := h
 have HD0 : Hid (d.size = N) := hN
 have wL : IntKind.i64.wrap ((b : Int) - (a : Int)) = (L : Int) := by rw [IntKind.wrap_i64]; omega
 have eL : (b : Int) - (a : Int) = (L : Int) := by omega
 have h8 : ((8 : Int) ≤ (L : Int)) := by omega
 have tT : ((L : Int)).tdiv 4 = (T : Int) := by rw [Int.tdiv_eq_ediv_of_nonneg (by omega)]; omega
 have wT2 : IntKind.i64.wrap ((T : Int) * 2) = (T2 : Int) := by rw [IntKind.wrap_i64]; omega
 have eT2 : (T : Int) * 2 = (T2 : Int) := by omega
 have wJ : IntKind.i64.wrap ((a : Int) + (T2 : Int)) = (J : Int) := by rw [IntKind.wrap_i64]; omega
 have eJ : (a : Int) + (T2 : Int) = (J : Int) := by omega
 have wJ0 : IntKind.i64.wrap ((J : Int) - 1) = (J0 : Int) := by rw [IntKind.wrap_i64]; omega
 have eJ0 : (J : Int) - 1 = (J0 : Int) := by omega
 have wJ1 : IntKind.i64.wrap ((J : Int) + 1) = (J1 : Int) := by rw [IntKind.wrap_i64]; omega
 have eJ1 : (J : Int) + 1 = (J1 : Int) := by omega
 have wX : IntKind.u64.wrap (L : Int) = (L : Int) := by rw [IntKind.wrap_u64]; omega
 have wM : IntKind.u64.wrap ((M : Int) - 1) = (M1 : Int) := by rw [IntKind.wrap_u64]; omega
 have eM : (M : Int) - 1 = (M1 : Int) := by omega
 have wM1 : IntKind.u64.wrap (M1 : Int) = (M1 : Int) := by rw [IntKind.wrap_u64]; omega
 have HF : Hid (a ≤ J0 ∧ J1 < b ∧ J1 = J0 + 2 ∧ M1 < 2 * L ∧ L = b - a ∧ M1 < 2000000) := ⟨by omega,by omega,by omega,by omega,by omega,by omega⟩
 have hnp := q4E L (by omega)
 rw [← hM] at hnp
 have hb1 := qe w (.cells #[.int .u64 (L : Int)] 197)
 have HX1 : Hid (XB (w.alloc (.cells #[.int .u64 (L : Int)] 197)) w.heap.size L) := (MapKept.heap_alloc w _).1
 have HS1 : Hid (SoAt (w.alloc (.cells #[.int .u64 (L : Int)] 197)) g d t) := (hb1.block g h.lt).trans h
 have HG1 : Hid (w.grownBy (w.alloc (.cells #[.int .u64 (L : Int)] 197)) (some g)) := ⟨hb1.os,hb1.tape,hb1.output,hb1.size,fun j hj _ => hb1.block j hj⟩
 have HP1 : Hid (PermIn a b d d) := Go.Sort.permIn_refl d a b
 have HB : Hid (b ≤ d.size) := hb
 rw [hN] at hb hn ⊢
 have hLN : L ≤ 1000000 := by omega
 have hTb : T ≤ 1000000 := by omega
 have hT2b : T2 ≤ 2000000 := by omega
 have hJb : J ≤ 3000000 := by omega
 have hJp : 1 ≤ J := by omega
 clear h hN hL hT hT2 hJ hJ0 hJ1 hM hM1 hpw hb1
 go_enter Tryz.func139,Tryz.ntmps139
 go_wp2_with fail
 generalize w.alloc (.cells #[.int .u64 (L : Int)] 197) = w1 at *
 refine (hnp w1).mono ?_
 rintro e w2 ⟨rfl,hw2⟩
 obtain rfl := hw2.symm
 clear hnp
 go_wp2
 go_loopw [9] (fun iv wr => ∃ i : Nat,J0 ≤ i ∧ i ≤ J1 + 1 ∧ iv = .int .i64 (i : Int) ∧ ∃ (dk : Array Int) (X : Nat),Hid (dk.size = N) ∧ Hid (SoAt wr g dk t) ∧ Hid (PermIn a b d dk) ∧ Hid (XB wr w.heap.size X) ∧ Hid (X < 18446744073709551616) ∧ Hid (w.grownBy wr (some g))) (fun iv _ => J1 + 1 - (intOf iv).toNat)
 case atStart => exact ⟨J0,Nat.le_refl _,by have := HF.out; omega,by first | rfl | go_num,d,L,HD0,HS1,HP1,HX1,by show _ < _; omega,HG1⟩
 case round =>
  obtain ⟨i,hi1,hi2,rfl,dk,X,HD,HS,HP,HX,HXL,HG⟩ := hrel
  clear HD0 HS1 HP1 HX1 HG1 HS0
  by_cases hij : i ≤ J1
  ·have hij' : (i : Int) ≤ (J1 : Int) := by omega
   have hne := XB.ne HX.out HS.out
   have hnx := q87 w.heap.size X HXL.out wr HX.out
   go_wp2_with fail
   refine hnx.mono ?_
   rintro e w3 ⟨Y,rfl,hY,hx3,hg3⟩
   have HS3 : Hid (SoAt w3 g dk t) := SoAt.grown HS.out hg3 hne
   have HX3 : Hid (XB w3 w.heap.size Y) := hx3
   have HY : Hid (Y < 18446744073709551616) := hY
   have HG3 : Hid (w.grownBy w3 (some g)) := by
    have h1 := HG.out
    exact ⟨hg3.os.trans h1.os,hg3.tape.trans h1.tape,hg3.output.trans h1.output,Nat.le_trans h1.size hg3.size,fun j hj hn => (hg3.block j (Nat.lt_of_lt_of_le hj h1.size) (fun e => by injection e with e; omega)).trans (h1.block j hj hn)⟩
   clear hnx hx3 hg3 HS HG HX HXL
   have hF := HF.out
   obtain ⟨O,hO⟩ : ∃ O,O = Y &&& M1 := ⟨_,rfl⟩
   have hOM : O ≤ M1 := by rw [hO]; exact Nat.and_le_right
   have hand : bits BinOp.and IntKind.u64 (Y : Int) (M1 : Int) = (O : Int) := by rw [bits_and_u64_nat Y M1 hY (by omega),hO]
   have wO : IntKind.i64.wrap (O : Int) = (O : Int) := by rw [IntKind.wrap_i64]; omega
   clear hO hY
   by_cases hOL : L ≤ O
   ·have hOL' : (L : Int) ≤ (O : Int) := by omega
    obtain ⟨O2,hO2⟩ : ∃ O2,O2 = O - L := ⟨_,rfl⟩
    have wO2 : IntKind.i64.wrap ((O : Int) - (L : Int)) = (O2 : Int) := by rw [IntKind.wrap_i64]; omega
    have eO2 : (O : Int) - (L : Int) = (O2 : Int) := by omega
    obtain ⟨Q,hQ⟩ : ∃ Q,Q = a + O2 := ⟨_,rfl⟩
    have wQ : IntKind.i64.wrap ((a : Int) + (O2 : Int)) = (Q : Int) := by rw [IntKind.wrap_i64]; omega
    have eQ : (a : Int) + (O2 : Int) = (Q : Int) := by omega
    have hQ1 : a ≤ Q := by omega
    have hQ2 : Q < b := by omega
    clear hO2 hQ
    have HPS : Hid (PermIn a b d (swp dk i Q)) := Go.Sort.permIn_trans _ _ _ _ _ HP.out (Go.Sort.swp_permIn dk a b i Q (by omega) (by omega) hQ1 hQ2 (by rw [HD.out]; omega))
    have hib : i < b := by omega
    clear HP hF
    go_wp2
    have hi1 := fun w' => qh g N c i w' (by omega)
    have hi2 := fun w' => qh g N c Q w' (by omega)
    have hsw : SoAt w3 g dk t := HS3.out
    have c3 := hsw.cell (i := i) (by rw [HD.out]; omega)
    have c4 := hsw.cell (i := Q) (by rw [HD.out]; omega)
    have f3 := hsw.fz i
    have f4 := hsw.fz Q
    have hswb : SoAt (w3.setCell ⟨g,i,none⟩ (.int .u64 dk[Q]!)) g (dk.setIfInBounds i dk[Q]!) t := hsw.set (by rw [HD.out]; omega) _
    have f5 := hswb.fz Q
    have c5 := hswb.cell (i := Q) (by rw [Array.size_setIfInBounds,HD.out]; omega)
    have HSa7 : Hid (SoAt ((w3.setCell ⟨g,i,none⟩ (.int .u64 dk[Q]!)).setCell ⟨g,Q,none⟩ (.int .u64 dk[i]!)) g (swp dk i Q) t) := hsw.swap (by rw [HD.out]; omega) (by rw [HD.out]; omega)
    have HGa7 : Hid (w.grownBy ((w3.setCell ⟨g,i,none⟩ (.int .u64 dk[Q]!)).setCell ⟨g,Q,none⟩ (.int .u64 dk[i]!)) (some g)) := qm (qm HG3.out _) _
    have HD7 : Hid ((swp dk i Q).size = N) := by show _ = _; rw [Go.Sort.size_swp]; exact HD.out
    have HXa : Hid (XB ((w3.setCell ⟨g,i,none⟩ (.int .u64 dk[Q]!)).setCell ⟨g,Q,none⟩ (.int .u64 dk[i]!)).drew w.heap.size Y) := (Below.heap_setCell _ _ _ _ (fun e => hne e.symm)).trans ((Below.heap_setCell _ _ _ _ (fun e => hne e.symm)).trans HX3.out)
    clear hsw hswb
    generalize (dk.setIfInBounds i dk[Q]!)[Q]! = ysw at *
    generalize dk[i]! = xi at *
    generalize dk[Q]! = xj at *
    go_upto_region 15 with fail
    go_region
    all_goals
     have HS7 : Hid (SoAt ((w3.setCell ⟨g,i,none⟩ (.int .u64 xj)).setCell ⟨g,Q,none⟩ (.int .u64 xi)).drew g (swp dk i Q) t) := SoAt.drew HSa7.out
     have HG7 : Hid (w.grownBy ((w3.setCell ⟨g,i,none⟩ (.int .u64 xj)).setCell ⟨g,Q,none⟩ (.int .u64 xi)).drew (some g)) := qu HGa7.out
     clear HSa7 HGa7 c3 c4 f3 f4 f5 c5 hi1 hi2
     generalize ((w3.setCell ⟨g,i,none⟩ (.int .u64 xj)).setCell ⟨g,Q,none⟩ (.int .u64 xi)).drew = w7 at *
     generalize swp dk i Q = d7 at *
     have HX7 : Hid (XB w7 w.heap.size Y) := HXa.out
     go_wp2
     go_roundw
     case rel => exact ⟨i + 1,by omega,by omega,by go_num,d7,Y,HD7,HS7,HPS,HX7,HY,HG7⟩
     case measure => simp [intOf]; omega
   ·have hOL' : ¬ (L : Int) ≤ (O : Int) := by omega
    obtain ⟨Q,hQ⟩ : ∃ Q,Q = a + O := ⟨_,rfl⟩
    have wQ : IntKind.i64.wrap ((a : Int) + (O : Int)) = (Q : Int) := by rw [IntKind.wrap_i64]; omega
    have eQ : (a : Int) + (O : Int) = (Q : Int) := by omega
    have hQ1 : a ≤ Q := by omega
    have hQ2 : Q < b := by omega
    clear hQ
    have HPS : Hid (PermIn a b d (swp dk i Q)) := Go.Sort.permIn_trans _ _ _ _ _ HP.out (Go.Sort.swp_permIn dk a b i Q (by omega) (by omega) hQ1 hQ2 (by rw [HD.out]; omega))
    have hib : i < b := by omega
    clear HP hF
    go_wp2
    have hi1 := fun w' => qh g N c i w' (by omega)
    have hi2 := fun w' => qh g N c Q w' (by omega)
    have hsw : SoAt w3 g dk t := HS3.out
    have c3 := hsw.cell (i := i) (by rw [HD.out]; omega)
    have c4 := hsw.cell (i := Q) (by rw [HD.out]; omega)
    have f3 := hsw.fz i
    have f4 := hsw.fz Q
    have hswb : SoAt (w3.setCell ⟨g,i,none⟩ (.int .u64 dk[Q]!)) g (dk.setIfInBounds i dk[Q]!) t := hsw.set (by rw [HD.out]; omega) _
    have f5 := hswb.fz Q
    have c5 := hswb.cell (i := Q) (by rw [Array.size_setIfInBounds,HD.out]; omega)
    have HSa7 : Hid (SoAt ((w3.setCell ⟨g,i,none⟩ (.int .u64 dk[Q]!)).setCell ⟨g,Q,none⟩ (.int .u64 dk[i]!)) g (swp dk i Q) t) := hsw.swap (by rw [HD.out]; omega) (by rw [HD.out]; omega)
    have HGa7 : Hid (w.grownBy ((w3.setCell ⟨g,i,none⟩ (.int .u64 dk[Q]!)).setCell ⟨g,Q,none⟩ (.int .u64 dk[i]!)) (some g)) := qm (qm HG3.out _) _
    have HD7 : Hid ((swp dk i Q).size = N) := by show _ = _; rw [Go.Sort.size_swp]; exact HD.out
    have HXa : Hid (XB ((w3.setCell ⟨g,i,none⟩ (.int .u64 dk[Q]!)).setCell ⟨g,Q,none⟩ (.int .u64 dk[i]!)).drew w.heap.size Y) := (Below.heap_setCell _ _ _ _ (fun e => hne e.symm)).trans ((Below.heap_setCell _ _ _ _ (fun e => hne e.symm)).trans HX3.out)
    clear hsw hswb
    generalize (dk.setIfInBounds i dk[Q]!)[Q]! = ysw at *
    generalize dk[i]! = xi at *
    generalize dk[Q]! = xj at *
    go_upto_region 15 with fail
    go_region
    all_goals
     have HS7 : Hid (SoAt ((w3.setCell ⟨g,i,none⟩ (.int .u64 xj)).setCell ⟨g,Q,none⟩ (.int .u64 xi)).drew g (swp dk i Q) t) := SoAt.drew HSa7.out
     have HG7 : Hid (w.grownBy ((w3.setCell ⟨g,i,none⟩ (.int .u64 xj)).setCell ⟨g,Q,none⟩ (.int .u64 xi)).drew (some g)) := qu HGa7.out
     clear HSa7 HGa7 c3 c4 f3 f4 f5 c5 hi1 hi2
     generalize ((w3.setCell ⟨g,i,none⟩ (.int .u64 xj)).setCell ⟨g,Q,none⟩ (.int .u64 xi)).drew = w7 at *
     generalize swp dk i Q = d7 at *
     have HX7 : Hid (XB w7 w.heap.size Y) := HXa.out
     go_wp2
     go_roundw
     case rel => exact ⟨i + 1,by omega,by omega,by go_num,d7,Y,HD7,HS7,HPS,HX7,HY,HG7⟩
     case measure => simp [intOf]; omega
  ·have hij' : ¬ (i : Int) ≤ (J1 : Int) := by omega
   go_wp2
   go_end0
   exact ⟨rfl,dk,HP.out,HD.out,HS.out,HG.out⟩
end Go.Proofs.YtejekdenpefoiaaGreatDoor
namespace Go.Proofs.YtejekdenpefoiaaGreatDoor
open Go.RowKit Go.Maps
open Go.Sort (swp PermIn SortedIn)
def PdqC (n : Nat) : Prop := ∀ (g c a b lim : Nat) (d : Array Int) (t : List Int) (w : World),SoAt w g d t → a ≤ b → b ≤ d.size → d.size ≤ 1000000 → lim ≤ 64 → b - a < n → Go.Sort.Below lt64 a b d →
 Calls Tryz.prog 117 #[.slice (some ⟨g,0,none⟩) d.size c,.int .i64 (a : Int),.int .i64 (b : Int),.int .i64 (lim : Int)] w fun e w' => e = .returned (.tuple #[]) ∧ ∃ d',PermIn a b d d' ∧ SortedIn lt64 a b d' ∧ SoAt w' g d' t ∧ w.grownBy w' (some g)
theorem qaY {w w' : World} (h : w.grownBy w' none) (g : Nat) : w.grownBy w' (some g) := ⟨h.os,h.tape,h.output,h.size,fun j hj _ => h.block j hj (fun e => by cases e)⟩
theorem q8q (n : Nat) (IH : PdqC n) : PdqC (n + 1) := by
 intro g c a0 b0 lim0 d0 t w h hab hb hn hlim hlt hB
 obtain ⟨N,hN⟩ : ∃ N,d0.size = N := ⟨_,rfl⟩
 have HS0 : Hid (SoAt w g d0 t) := h
 have HD0 : Hid (d0.size = N) := hN
 have HG0 : Hid (w.grownBy w (some g)) := World.grownBy.refl _ _
 have HQ0 : Hid (PQ a0 b0 a0 b0 d0 d0) := qcU hab hB
 have HBB : Hid (b0 ≤ d0.size) := hb
 have HIH : Hid (PdqC n) := IH
 have HFIN : Hid (∀ (a b : Nat) (d d' : Array Int) (w' : World),PQ a0 b0 a b d0 d → PermIn a b d d' → SortedIn lt64 a b d' → SoAt w' g d' t → w.grownBy w' (some g) → ∃ d',PermIn a0 b0 d0 d' ∧ SortedIn lt64 a0 b0 d' ∧ SoAt w' g d' t ∧ w.grownBy w' (some g)) := fun a b d d' w' hq hp hs h1 h2 => ⟨d',hq.up hb hp,hq.fin d' hp hs,h1,h2⟩
 rw [hN] at hb hn ⊢
 clear h hN hB IH
 go_enter Tryz.func117,Tryz.ntmps117
 go_wp2
 go_loopw [1,2,3,8,9] (fun av bv lv f1v f2v wr => ∃ (a b lim : Nat) (f1 f2 : Bool),av = .int .i64 (a : Int) ∧ bv = .int .i64 (b : Int) ∧ lv = .int .i64 (lim : Int) ∧ f1v = .bool f1 ∧ f2v = .bool f2 ∧ lim ≤ 64 ∧ ∃ dk : Array Int,Hid (dk.size = N) ∧ Hid (SoAt wr g dk t) ∧ Hid (PQ a0 b0 a b d0 dk) ∧ Hid (w.grownBy wr (some g))) (fun av bv _ _ _ _ => (intOf bv - intOf av).toNat)
 case atStart => exact ⟨a0,b0,lim0,true,true,rfl,rfl,rfl,rfl,rfl,hlim,d0,HD0,HS0,HQ0,HG0⟩
 case round =>
  obtain ⟨a,b,lim,f1,f2,rfl,rfl,rfl,rfl,rfl,hlm,dk,HD,HS,HQ,HG⟩ := hrel
  clear HS0 HD0 HG0 HQ0
  have q1 := HQ.out.a1
  have q2 := HQ.out.ab
  have q3 := HQ.out.b1
  obtain ⟨L,hL⟩ : ∃ L,L = b - a := ⟨_,rfl⟩
  have wL : IntKind.i64.wrap ((b : Int) - (a : Int)) = (L : Int) := by rw [IntKind.wrap_i64]; omega
  have eL : (b : Int) - (a : Int) = (L : Int) := by omega
  have HL : Hid (L = b - a) := hL
  by_cases h12 : L ≤ 12
  ·have h12' : (L : Int) ≤ 12 := by omega
   have hins := q5G g c a b dk t wr HS.out q2 (by rw [HD.out]; omega) (by rw [HD.out]; omega)
   have HI : Hid _ := Go.Sort.insertionSort_holds swo64 dk a b q2 (by rw [HD.out]; omega)
   rw [HD.out] at hins
   clear hL
   go_wp2_with fail
   refine hins.mono ?_
   rintro e w1 ⟨rfl,hs1,hg1⟩
   have HZ : Hid _ := HFIN.out a b dk _ w1 HQ.out HI.out.1 HI.out.2 hs1 (qC HG.out hg1)
   clear hins hs1 hg1
   go_wp2
   refine bodyPost_ret (results_none rfl _ _ _) rfl ?_
   exact ⟨rfl,HZ.out⟩
  ·have h12' : ¬ (L : Int) ≤ 12 := by omega
   have hab12 : a + 12 < b := by omega
   by_cases hl0 : lim = 0
   ·have hl0' : ((lim : Int) == 0) = true := by rw [beq_iff_eq]; omega
    have hhp := q5p g c a b dk t wr HS.out (by omega) (by rw [HD.out]; omega) (by rw [HD.out]; omega)
    have HI : Hid _ := Go.Sort.heapSort_holds swo64 dk a b q2 (by rw [HD.out]; omega)
    rw [HD.out] at hhp
    clear hL hl0
    go_wp2_with fail
    refine hhp.mono ?_
    rintro e w1 ⟨rfl,hs1,hg1⟩
    have HZ : Hid _ := HFIN.out a b dk _ w1 HQ.out HI.out.1 HI.out.2 hs1 (qC HG.out hg1)
    clear hhp hs1 hg1
    go_wp2
    refine bodyPost_ret (results_none rfl _ _ _) rfl ?_
    exact ⟨rfl,HZ.out⟩
   ·have hl0' : ((lim : Int) == 0) = false := by rw [beq_eq_false_iff_ne]; omega
    obtain ⟨lm,hlm1⟩ : ∃ lm,lm = lim - 1 := ⟨_,rfl⟩
    have wlm : IntKind.i64.wrap ((lim : Int) - 1) = (lm : Int) := by rw [IntKind.wrap_i64]; omega
    have elm : (lim : Int) - 1 = (lm : Int) := by omega
    have hlm2 : lm ≤ 64 := by omega
    have hbr := q6Z g c a b dk t wr HS.out hab12 (by rw [HD.out]; omega) (by rw [HD.out]; omega)
    rw [HD.out] at hbr
    clear hL hl0 hlm1
    go_upto_if 35 with fail
    go_cut [3] (fun lv wx => ∃ l1 : Nat,lv = .int .i64 (l1 : Int) ∧ l1 ≤ 64 ∧ ∃ d1 : Array Int,Hid (d1.size = N) ∧ Hid (SoAt wx g d1 t) ∧ Hid (PQ a0 b0 a b d0 d1) ∧ Hid (w.grownBy wx (some g)))
    case first =>
     cases f1 with
     | true =>
      go_wp2
      go_meet
      case rel => exact ⟨lim,rfl,hlm,dk,HD,HS,HQ,HG⟩
     | false =>
      go_wp2_with fail
      refine hbr.mono ?_
      rintro e w1 ⟨rfl,d1,hp1,hz1,hs1,hg1⟩
      have HQ1 : Hid (PQ a0 b0 a b d0 d1) := HQ.out.move HBB.out hp1
      have HS1 : Hid (SoAt w1 g d1 t) := hs1
      have HD1 : Hid (d1.size = N) := hz1
      have HG1 : Hid (w.grownBy w1 (some g)) := qC HG.out hg1
      clear hbr hp1 hz1 hs1 hg1
      go_wp2
      go_meet
      case rel => exact ⟨lm,rfl,hlm2,d1,HD1,HS1,HQ1,HG1⟩
    case rest =>
     obtain ⟨l1,rfl,hl1,d1,HD1,HS1,HQ1,HG1⟩ := hcut
     clear hbr HD HS HQ HG wlm elm hl0' hlm2
     generalize wc = w1 at *
     have hch := q6x g c a b d1 t w1 HS1.out hab12 (by rw [HD1.out]; omega) (by rw [HD1.out]; omega)
     rw [HD1.out] at hch
     go_wp2_with fail
     refine hch.mono ?_
     rintro e w2 ⟨q,k,rfl,hqa,hqb,hk,hs2,hg2⟩
     have HS2 : Hid (SoAt w2 g d1 t) := hs2
     have HG2 : Hid (w.grownBy w2 (some g)) := qC HG1.out (qaY hg2 g)
     clear hch hs2 hg2 HS1 HG1
     obtain ⟨b1,hb1⟩ : ∃ b1,b1 = b - 1 := ⟨_,rfl⟩
     obtain ⟨qa,hqa1⟩ : ∃ qa,qa = q - a := ⟨_,rfl⟩
     obtain ⟨q1,hqq⟩ : ∃ q1,q1 = b1 - qa := ⟨_,rfl⟩
     have wb1 : IntKind.i64.wrap ((b : Int) - 1) = (b1 : Int) := by rw [IntKind.wrap_i64]; omega
     have eb1 : (b : Int) - 1 = (b1 : Int) := by omega
     have wqa : IntKind.i64.wrap ((q : Int) - (a : Int)) = (qa : Int) := by rw [IntKind.wrap_i64]; omega
     have eqa : (q : Int) - (a : Int) = (qa : Int) := by omega
     have wqq : IntKind.i64.wrap ((b1 : Int) - (qa : Int)) = (q1 : Int) := by rw [IntKind.wrap_i64]; omega
     have eqq : (b1 : Int) - (qa : Int) = (q1 : Int) := by omega
     have hq1a : a ≤ q1 := by omega
     have hq1b : q1 < b := by omega
     have hrv := q5o g c a b d1 t w2 HS2.out q2 (by rw [HD1.out]; omega) (by rw [HD1.out]; omega)
     have HRV : Hid _ := Go.Sort.reverseRange_holds d1 a b q2 (by rw [HD1.out]; omega)
     rw [HD1.out] at hrv
     clear hb1 hqa1 hqq
     go_upto_if 50 with fail
     go_cut [11,12] (fun qv kv wx => ∃ q k : Nat,qv = .int .i64 (q : Int) ∧ kv = .int .i64 (k : Int) ∧ a ≤ q ∧ q < b ∧ k ≤ 2 ∧ ∃ d1 : Array Int,Hid (d1.size = N) ∧ Hid (SoAt wx g d1 t) ∧ Hid (PQ a0 b0 a b d0 d1) ∧ Hid (w.grownBy wx (some g)))
     case first =>
      by_cases hk2 : k = 2
      ·have hk2' : ((k : Int) == 2) = true := by rw [beq_iff_eq]; omega
       clear hk2
       go_wp2_with fail
       refine hrv.mono ?_
       rintro e w3 ⟨rfl,hs3,hg3⟩
       have HQ3 : Hid (PQ a0 b0 a b d0 (Go.Sort.reverseRange d1 a b)) := HQ1.out.move HBB.out HRV.out
       have HS3 : Hid (SoAt w3 g (Go.Sort.reverseRange d1 a b) t) := hs3
       have HD3 : Hid ((Go.Sort.reverseRange d1 a b).size = N) := HRV.out.1.trans HD1.out
       have HG3 : Hid (w.grownBy w3 (some g)) := qC HG2.out hg3
       clear hrv hs3 hg3
       go_wp2_with fail
       go_meet
       case rel => exact ⟨q1,1,rfl,rfl,hq1a,hq1b,by omega,_,HD3,HS3,HQ3,HG3⟩
      ·have hk2' : ((k : Int) == 2) = false := by rw [beq_eq_false_iff_ne]; omega
       clear hk2
       go_wp2_with fail
       go_meet
       case rel => exact ⟨q,k,rfl,rfl,hqa,hqb,hk,d1,HD1,HS2,HQ1,HG2⟩
     case rest =>
      clear hrv HRV wb1 eb1 wqa eqa wqq eqq hq1a hq1b HD1 HS2 HQ1 HG2 hqa hqb hk
      obtain ⟨q,k,rfl,rfl,hqa,hqb,hk,d2,HD2,HS2,HQ2,HG2⟩ := hcut
      generalize wc = w3 at *
      go_upto_region 15 with fail
      go_cut [68] (fun cv wx => cv = .bool (f1 && f2 && ((k : Int) == 1)) ∧ wx = w3)
      case first =>
       cases f1 <;> cases f2 <;> (go_wp2_with fail; go_meet; exact ⟨rfl,rfl⟩)
      case rest =>
       obtain ⟨rfl,rfl⟩ := hcut
       generalize (f1 && f2 && ((k : Int) == 1)) = y at *
       generalize wc = w4 at *
       have hpi := q8r g c a b d2 t w4 HS2.out (by omega) (by rw [HD2.out]; omega) (by rw [HD2.out]; omega)
       have HPI : Hid _ := Go.Sort.partialInsertionSort_holds swo64 d2 a b (by omega) (by rw [HD2.out]; omega) HQ2.out.bel
       rw [HD2.out] at hpi
       generalize Go.Sort.partialInsertionSort lt64 d2 a b = R at *
       obtain ⟨R1,R2⟩ := R
       go_upto_if 68 with fail
       go_cut [12] (fun kv wx => kv = .int .i64 (k : Int) ∧ ∃ d1 : Array Int,Hid (d1.size = N) ∧ Hid (SoAt wx g d1 t) ∧ Hid (PQ a0 b0 a b d0 d1) ∧ Hid (w.grownBy wx (some g)))
       case first =>
        cases y with
        | false =>
         go_wp2_with fail
         go_meet
         case rel => exact ⟨rfl,d2,HD2,HS2,HQ2,HG2⟩
        | true =>
         go_wp2_with fail
         refine hpi.mono ?_
         rintro e w5 ⟨rfl,hs5,hg5⟩
         have HS5 : Hid (SoAt w5 g R1 t) := hs5
         have HG5 : Hid (w.grownBy w5 (some g)) := qC HG2.out hg5
         clear hpi hs5 hg5
         cases R2 with
         | true =>
          have HZ : Hid _ := HFIN.out a b d2 _ w5 HQ2.out HPI.out.1 (HPI.out.2 rfl) HS5.out HG5.out
          go_wp2_with fail
          refine bodyPost_ret (results_none rfl _ _ _) rfl ?_
          exact ⟨rfl,HZ.out⟩
         | false =>
          have HQ5 : Hid (PQ a0 b0 a b d0 R1) := HQ2.out.move HBB.out HPI.out.1
          have HD5 : Hid (R1.size = N) := HPI.out.1.1.trans HD2.out
          go_wp2_with fail
          go_meet
          case rel => exact ⟨rfl,R1,HD5,HS5,HQ5,HG5⟩
       case rest =>
        clear hpi HPI HD2 HS2 HQ2 HG2
        obtain ⟨rfl,d3,HD3,HS3,HQ3,HG3⟩ := hcut
        generalize wc = w5 at *
        obtain ⟨am,ham⟩ : ∃ am,am = a - 1 := ⟨_,rfl⟩
        have HAM : Hid (am = a - 1) := ham
        obtain ⟨y2,hy2⟩ : ∃ y2 : Bool,y2 = (decide (0 < a) && !lt64 d3[am]! d3[q]!) := ⟨_,rfl⟩
        have HY : Hid (y2 = (decide (0 < a) && !lt64 d3[am]! d3[q]!)) := hy2
        clear hy2
        go_upto_region 17 with fail
        go_cut [87] (fun cv wx => cv = .bool y2 ∧ Hid (SoAt wx g d3 t) ∧ Hid (w.grownBy wx (some g)))
        case first =>
         by_cases hij : 0 < a
         ·have hd : decide ((0 : Int) < (a : Int)) = true := decide_eq_true (by omega)
          have wam : IntKind.i64.wrap ((a : Int) - 1) = (am : Int) := by rw [IntKind.wrap_i64]; omega
          have eam : (a : Int) - 1 = (am : Int) := by omega
          have j1 := fun w' => qh g N c am w' (by omega)
          have j2 := fun w' => qh g N c q w' (by omega)
          have hsw : SoAt w5 g d3 t := HS3.out
          have c3 := hsw.cell (i := am) (by rw [HD3.out]; omega)
          have c4 := hsw.cell (i := q) (by rw [HD3.out]; omega)
          have hless := fun w' => qp d3[am]! d3[q]! w'
          have HY2 : Hid (y2 = !(lt64 d3[am]! d3[q]!)) := by
           show _ = _
           rw [HY.out,decide_eq_true hij]; rfl
          clear hsw HY ham
          generalize lt64 d3[am]! d3[q]! = lv at *
          generalize d3[am]! = xv at *
          generalize d3[q]! = xa at *
          obtain rfl := HY2.out
          go_quiet ((go_at_call 143; exact Calls.quiet_of_same (hless _)))
          go_wp2_with fail
          go_meet
          case rel => exact ⟨rfl,SoAt.drewN HS3.out _,qj HG3.out _⟩
         ·have hd : decide ((0 : Int) < (a : Int)) = false := decide_eq_false (by omega)
          have HY2 : Hid (y2 = false) := by
           show _ = _
           rw [HY.out,decide_eq_false hij]; rfl
          clear HY ham
          obtain rfl := HY2.out
          go_quiet (fail)
          go_wp2_with fail
          go_meet
          case rel => exact ⟨rfl,SoAt.drewN HS3.out _,qj HG3.out _⟩
        case rest =>
         clear HS3 HG3 ham
         obtain ⟨rfl,HS3,HG3⟩ := hcut
         generalize wc = w6 at *
         cases y2 with
         | true =>
          have HY3 : Hid (0 < a ∧ lt64 d3[a - 1]! d3[q]! = false) := by
           have h0 := HY.out
           rw [HAM.out] at h0
           simp only [Bool.true_eq,Bool.and_eq_true,decide_eq_true_eq,Bool.not_eq_true'] at h0
           exact h0
          have hpe := q6o g c a b q d3 t w6 HS3.out (by omega) (by rw [HD3.out]; omega) hqa hqb (by rw [HD3.out]; omega)
          rw [HD3.out] at hpe
          go_wp2_with fail
          refine hpe.mono ?_
          rintro e w7 ⟨m,d4,rfl,hP,hs7,hg7⟩
          have HQ7 : Hid (PQ a0 b0 m b d0 d4) := HQ3.out.eq HBB.out HY3.out.1 HY3.out.2 hP
          have HD7 : Hid (d4.size = N) := hP.sz.trans HD3.out
          have HS7 : Hid (SoAt w7 g d4 t) := hs7
          have HG7 : Hid (w.grownBy w7 (some g)) := qC HG3.out hg7
          have hm1 := hP.ma
          have hm2 := hP.mb
          clear hpe hP hs7 hg7
          go_wp2_with fail
          go_roundw
          case rel => exact ⟨m,b,l1,f1,f2,rfl,rfl,rfl,rfl,rfl,hl1,d4,HD7,HS7,HQ7,HG7⟩
          case measure => simp [intOf]; omega
         | false =>
          have hpt := q8o g c a b q d3 t w6 HS3.out (by omega) (by rw [HD3.out]; omega) hqa hqb (by rw [HD3.out]; omega)
          rw [HD3.out] at hpt
          clear HY HAM
          go_wp2_with fail
          refine hpt.mono ?_
          rintro e w7 ⟨m,f,d4,rfl,hP,hs7,hg7⟩
          have HP : Hid (Parted d3 a b m d4) := hP
          have HD7 : Hid (d4.size = N) := hP.sz.trans HD3.out
          have HS7 : Hid (SoAt w7 g d4 t) := hs7
          have HG7 : Hid (w.grownBy w7 (some g)) := qC HG3.out hg7
          have hm1 := hP.ma
          have hm2 := hP.mb
          obtain ⟨la,hla⟩ : ∃ la,la = m - a := ⟨_,rfl⟩
          obtain ⟨lb,hlb⟩ : ∃ lb,lb = b - m := ⟨_,rfl⟩
          obtain ⟨T,hT⟩ : ∃ T,T = L / 8 := ⟨_,rfl⟩
          obtain ⟨ms,hms⟩ : ∃ ms,ms = m + 1 := ⟨_,rfl⟩
          have wla : IntKind.i64.wrap ((m : Int) - (a : Int)) = (la : Int) := by rw [IntKind.wrap_i64]; omega
          have ela : (m : Int) - (a : Int) = (la : Int) := by omega
          have wlb : IntKind.i64.wrap ((b : Int) - (m : Int)) = (lb : Int) := by rw [IntKind.wrap_i64]; omega
          have elb : (b : Int) - (m : Int) = (lb : Int) := by omega
          have tT : ((L : Int)).tdiv 8 = (T : Int) := by rw [Int.tdiv_eq_ediv_of_nonneg (by omega)]; omega
          have wms : IntKind.i64.wrap ((m : Int) + 1) = (ms : Int) := by rw [IntKind.wrap_i64]; omega
          have ems : (m : Int) + 1 = (ms : Int) := by omega
          have HMS : Hid (ms = m + 1) := hms
          have hBl : Go.Sort.Below lt64 a m d4 := by
           rcases (HQ3.out.move HBB.out hP.perm).bel with k0 | k0
           ·exact Or.inl k0
           ·exact Or.inr fun i k1 k2 => k0 i k1 (by omega)
          have hBr : Go.Sort.Below lt64 ms b d4 := by
           rw [hms]
           exact Or.inr fun i k1 k2 => by rw [show m + 1 - 1 = m by omega]; exact hP.hi i (by omega) k2
          have hcl := HIH.out g c a m l1 d4 t w7 hs7 hm1 (by rw [HD7.out]; omega) (by rw [HD7.out]; omega) hl1 (by omega) hBl
          have hcr := HIH.out g c ms b l1 d4 t w7 hs7 (by omega) (by rw [HD7.out]; omega) (by rw [HD7.out]; omega) hl1 (by omega) hBr
          rw [HD7.out] at hcl hcr
          clear hpt hP hs7 hg7 hBl hBr hla hlb hT hms
          by_cases hlt2 : la < lb
          ·have hlt2' : (la : Int) < (lb : Int) := by omega
           clear hcr
           go_wp2_with fail
           refine hcl.mono ?_
           rintro e w8 ⟨rfl,d5,hp5,hs5,hs8,hg8⟩
           have HQ8 : Hid (PQ a0 b0 ms b d0 d5) := by
            rw [HMS.out]
            exact HQ3.out.left HBB.out HP.out hp5 hs5
           have HD8 : Hid (d5.size = N) := hp5.1.trans HD7.out
           have HS8 : Hid (SoAt w8 g d5 t) := hs8
           have HG8 : Hid (w.grownBy w8 (some g)) := qC HG7.out hg8
           clear hcl hp5 hs5 hs8 hg8
           go_wp2_with fail
           go_roundw
           case rel => exact ⟨ms,b,l1,_,f,rfl,rfl,rfl,rfl,rfl,hl1,d5,HD8,HS8,HQ8,HG8⟩
           case measure => simp [intOf]; omega
          ·have hlt2' : ¬ (la : Int) < (lb : Int) := by omega
           clear hcl
           go_wp2_with fail
           refine hcr.mono ?_
           rintro e w8 ⟨rfl,d5,hp5,hs5,hs8,hg8⟩
           have HQ8 : Hid (PQ a0 b0 a m d0 d5) := by
            rw [HMS.out] at hp5 hs5
            exact HQ3.out.right HBB.out HP.out hp5 hs5
           have HD8 : Hid (d5.size = N) := hp5.1.trans HD7.out
           have HS8 : Hid (SoAt w8 g d5 t) := hs8
           have HG8 : Hid (w.grownBy w8 (some g)) := qC HG7.out hg8
           clear hcr hp5 hs5 hs8 hg8
           go_wp2_with fail
           go_roundw
           case rel => exact ⟨a,m,l1,_,f,rfl,rfl,rfl,rfl,rfl,hl1,d5,HD8,HS8,HQ8,HG8⟩
           case measure => simp [intOf]; omega
theorem q9l (n : Nat) : PdqC n := by
 induction n with
 | zero => intro g c a b lim d t w h hab hb hn hl hlt; omega
 | succ n ih => exact q8q n ih
theorem qcc (x : Nat) : Go.Lib.bitLen x ≤ 64 := by
 have h : ∀ f x,Go.Lib.bitLenAux f x ≤ f := by
  intro f
  induction f with
  | zero => intro x; exact Nat.le_refl _
  | succ f ih =>
   intro x
   show (if x = 0 then 0 else 1 + Go.Lib.bitLenAux f (x / 2)) ≤ f + 1
   split
   ·omega
   ·have := ih (x / 2); omega
 exact h 64 x
theorem qak {d d' : Array Int} (hp : PermIn 0 d.size d d') (hs : SortedIn lt64 0 d.size d') : d'.toList.Perm d.toList ∧ d'.toList.Pairwise (· ≤ ·) := by
 constructor
 ·have h := hp.2.2
  rw [Array.extract_size] at h
  rw [show d'.extract 0 d.size = d' by rw [← hp.1]; exact Array.extract_size] at h
  exact h
 ·rw [List.pairwise_iff_getElem]
  intro i j hi hj hij
  rw [Array.length_toList] at hi hj
  have h := hs i j (Nat.zero_le _) hij (by rw [← hp.1]; exact hj)
  rw [getElem!_pos d' i hi,getElem!_pos d' j hj] at h
  simp only [lt64,Go.Sort.ltInt,decide_eq_false_iff_not] at h
  rw [Array.getElem_toList,Array.getElem_toList]
  omega
theorem q8z (g c : Nat) (d : Array Int) (t : List Int) (w : World) (h : SoAt w g d t) (hn : d.size ≤ 1000000) :
  Calls Tryz.prog 83 #[.slice (some ⟨g,0,none⟩) d.size c] w fun e w' => e = .returned (.tuple #[]) ∧ ∃ d' : Array Int,d'.toList.Perm d.toList ∧ d'.toList.Pairwise (· ≤ ·) ∧ SoAt w' g d' t ∧ w.grownBy w' (some g) := by
 have hb := q4m (d.size : Int) w (by omega) (by omega)
 have hl := qcc (d.size : Int).toNat
 have hpq := q9l (d.size + 1) g c 0 d.size (Go.Lib.bitLen (d.size : Int).toNat) d t w h (Nat.zero_le _) (Nat.le_refl _) hn hl (by omega) (Or.inl rfl)
 have HF : Hid (∀ d' : Array Int,PermIn 0 d.size d d' → SortedIn lt64 0 d.size d' → d'.toList.Perm d.toList ∧ d'.toList.Pairwise (· ≤ ·)) := fun d' => qak
 have wN : IntKind.u64.wrap (d.size : Int) = (d.size : Int) := by rw [IntKind.wrap_u64]; omega
 generalize Go.Lib.bitLen (d.size : Int).toNat = lim at *
 generalize d.size = N at *
 go_enter Tryz.func83,Tryz.ntmps83
 go_wp2_with fail
 refine hb.mono ?_
 rintro e w0 ⟨rfl,hw⟩
 rw [hw]
 clear hw w0
 go_wp2_with fail
 refine hpq.mono ?_
 rintro e w1 ⟨rfl,d',hp,hs,h1,hg⟩
 have HZ : Hid (∃ d' : Array Int,d'.toList.Perm d.toList ∧ d'.toList.Pairwise (· ≤ ·) ∧ SoAt w1 g d' t ∧ w.grownBy w1 (some g)) := ⟨d',(HF.out d' hp hs).1,(HF.out d' hp hs).2,h1,hg⟩
 clear hpq hb hp hs h1 hg HF
 go_wp2
 go_end0
 exact ⟨rfl,HZ.out⟩
theorem q8k (p : Option Addr) (c : Nat) (w : World) :
  Calls Tryz.prog 137 #[.slice p 0 c,.int .i64 0,.int .i64 0] w fun e w' => e = .returned (.tuple #[]) ∧ w' = w := by
 go_enter Tryz.func137,Tryz.ntmps137
 go_wp2
 go_loopw [6] (fun iv wr => iv = .int .i64 1 ∧ wr = w) (fun _ _ => 0)
 case atStart => exact ⟨rfl,rfl⟩
 case round =>
  obtain ⟨rfl,rfl⟩ := hrel
  go_wp2
  go_end0
  exact ⟨rfl,rfl⟩
theorem q84 (p : Option Addr) (c lim : Nat) (w : World) :
  Calls Tryz.prog 117 #[.slice p 0 c,.int .i64 0,.int .i64 0,.int .i64 (lim : Int)] w fun e w' => e = .returned (.tuple #[]) ∧ w' = w := by
 have hi := q8k p c w
 go_enter Tryz.func117,Tryz.ntmps117
 go_wp2
 go_loopw [1,2] (fun iv jv wr => iv = .int .i64 0 ∧ jv = .int .i64 0 ∧ wr = w) (fun _ _ _ => 0)
 case atStart => exact ⟨rfl,rfl,rfl⟩
 case round =>
  obtain ⟨rfl,rfl,rfl⟩ := hrel
  go_wp2_with fail
  refine hi.mono ?_
  rintro e w0 ⟨rfl,rfl⟩
  go_wp2
  refine bodyPost_ret (results_none rfl _ _ _) rfl ?_
  exact ⟨rfl,rfl⟩
theorem q6W (p : Option Addr) (c : Nat) (w : World) :
  Calls Tryz.prog 83 #[.slice p 0 c] w fun e w' => e = .returned (.tuple #[]) ∧ w' = w := by
 have hb := q4m 0 w (by omega) (by omega)
 have hpq := q84 p c (Go.Lib.bitLen (0 : Int).toNat) w
 generalize Go.Lib.bitLen (0 : Int).toNat = lim at *
 go_enter Tryz.func83,Tryz.ntmps83
 go_wp2_with fail
 refine hb.mono ?_
 rintro e w0 ⟨rfl,hw⟩
 rw [hw]
 clear hw w0
 go_wp2_with fail
 refine hpq.mono ?_
 rintro e w0 ⟨rfl,rfl⟩
 go_wp2
 go_end0
 exact ⟨rfl,rfl⟩
end Go.Proofs.YtejekdenpefoiaaGreatDoor
namespace Go.Proofs.YtejekdenpefoiaaGreatDoor
open Go.RowKit Go.Maps
theorem qaP {w : World} {base e size n : Nat} {v : Value} {xs : List Value} (h : w.ownsRow base e size v n xs) : ∃ a c,v = .slice a n c := by
 rcases h.2 with ⟨rfl,rfl⟩ | ⟨g,cap,cur,rfl,_⟩
 ·exact ⟨none,0,rfl⟩
 ·exact ⟨_,cap,rfl⟩
theorem q4u {w : World} {ops : Array Oper} {rest : List Oper} {o : Oper} {a : Act} {Q : Exit → Act → World → Prop} (hgd : o.guard = none) (s x : Operand)
  (ho : o.op = .call { callee := .builtin .append,args := #[s,x],argTypes := #[33,33] }) (base : Nat)
  (v : Value) (n : Nat) (zs : List Int) (hs : a.eval s = v) (hown : w.ownsRow base 52 1 v n (zs.map (Value.int .u64))) (g' : Nat) (z : Int) (hx : a.eval x = .slice (some ⟨g',0,none⟩) 1 1) (hc : w.cell? ⟨g',0,none⟩ = some (.int .u64 z))
  (hn : n + 1 ≤ 2000000) (hbase : base ≤ w.heap.size)
  (h : ∀ v' w',w'.ownsRow base 52 1 v' (n + 1) ((zs ++ [z]).map (Value.int .u64)) → w.grownBy w' v.ownBlock → wpList Tryz.prog ops Q rest (a.put o.dst v') w') : wpList Tryz.prog ops Q (o :: rest) a w := by
 obtain ⟨i,hi,hz0,hz1,hz2⟩ := info_parts q2h
 refine wpList_append_own w hgd s x 33 ho base 52 i _ 1 8 Tryz.underlying33 hi hz0 hz1 hz2 rfl (by decide) v n _ hs hown ⟨g',0,none⟩ 1 1 [.int .u64 z] hx rfl ?_ (fun u hu => by simp at hu; subst hu; rfl) (by unfold maxLen; omega) (by omega) hbase ?_
 ·intro j u hj
  match j with
  | 0 => simp at hj; rw [← hj,qn]; exact hc
  | j + 1 => simp at hj
 ·intro v' w' h1 h2 _
  exact h v' w' (by rw [List.map_append]; exact h1) h2
theorem q7V {w : World} {a : Addr} {n c : Nat} {l : List Nat} (h : USl w (some a) n c l) : ∀ j u,((iU l).map (Value.int .u64))[j]? = some u → w.cell? (a.add j) = some u := by
 intro j u hj
 have hjl : j < (iU l).length := by have := (List.getElem?_eq_some_iff.1 hj).1; simpa using this
 have hc := h.cell j (by rw [← h.hlen]; exact hjl)
 have e : u = .int .u64 ((iU l).getD j 0) := by
  rw [List.getElem?_map,List.getElem?_eq_getElem hjl] at hj
  rw [List.getD_eq_getElem?_getD,List.getElem?_eq_getElem hjl]
  simpa using hj.symm
 rw [e]; exact hc
theorem qdM (m : Nat) : (Builtin.zeroCells (Value.int .u64 0).cells m).toList = List.replicate m (Value.int .u64 0) := by
 have hc : (Value.int .u64 0).cells = #[.int .u64 0] := rfl
 unfold Builtin.zeroCells
 rw [hc]
 refine List.ext_getElem (by simp) fun i h1 h2 => ?_
 simp [Nat.mod_one]
theorem q5l {w : World} {ops : Array Oper} {rest : List Oper} {o : Oper} {a : Act} {Q : Exit → Act → World → Prop} (hgd : o.guard = none) (s y : Operand)
  (ho : o.op = .call { callee := .builtin .append,args := #[s,y],argTypes := #[33,33] }) (g : Nat) (x : Addr) (n c : Nat) (l : List Nat) (hs : a.eval s = .slice (some ⟨g,0,none⟩) 0 0) (hy : a.eval y = .slice (some x) n c) (hU : USl w (some x) n c l) (h0 : 0 < n) (hn : n ≤ 1000000)
  (h : ∀ G w',n ≤ G → G ≤ maxLen → SoAt w' w.heap.size (iU l).toArray (List.replicate (G - n) 0) → Below w.heap.size w w' → wpList Tryz.prog ops Q rest (a.put o.dst (.slice (some ⟨w.heap.size,0,none⟩) n G)) w') : wpList Tryz.prog ops Q (o :: rest) a w := by
 refine wpList_plain hgd fun _ hK => ?_
 obtain ⟨i0,hi,hz0,hz1,hz2⟩ := info_parts q2h
 have hln := hU.len
 have hrun : ∀ ty,(Builtin.append_ #[33,33] ty #[.slice (some ⟨g,0,none⟩) 0 0,.slice (some x) n c]).run Tryz.prog w = .ok (.slice (some ⟨w.heap.size,0,none⟩) n (grownCap w n 0 52)) (w.drew.alloc (.cells (((iU l).map (Value.int .u64)).toArray ++ Builtin.zeroCells (Value.int .u64 0).cells (grownCap w n 0 52 - n)) 52)) := fun ty => by
  have h := run_append_grow (P := Tryz.prog) w 33 ty 52 i0 (.int .u64 0) Tryz.underlying33 hi hz0 ⟨g,0,none⟩ 0 0 [] (by simp) (fun j v hj => by simp at hj) x n c ((iU l).map (Value.int .u64)) (by rw [hz1]; simp [hln]) (q7V hU) (by omega) (by omega) (growslice_fits (by omega) (by rw [hz2]; omega))
  simpa using h
 have hG := grownCap_ge w n 0 52
 have hG2 := grownCap_le_maxLen w n 0 52 (by unfold maxLen; omega)
 have hr := hrun o.type
 clear hrun
 generalize grownCap w n 0 52 = G at *
 have HB : Below w.heap.size w (w.drew.alloc (.cells (((iU l).map (Value.int .u64)).toArray ++ Builtin.zeroCells (Value.int .u64 0).cells (G - n)) 52)) := (Below.refl _ w).drew.alloc (Nat.le_refl _) _
 have HS : SoAt (w.drew.alloc (.cells (((iU l).map (Value.int .u64)).toArray ++ Builtin.zeroCells (Value.int .u64 0).cells (G - n)) 52)) w.heap.size (iU l).toArray (List.replicate (G - n) 0) := by
  have h1 := (MapKept.heap_alloc w.drew (.cells (((iU l).map (Value.int .u64)).toArray ++ Builtin.zeroCells (Value.int .u64 0).cells (G - n)) 52)).1
  show _ = _
  refine h1.trans ?_
  refine congrArg some (congrArg (fun c => Obj.cells c 52 (0,0)) (Array.toList_inj.1 ?_))
  rw [Array.toList_append,List.map_append,List.map_replicate,qdM]
 generalize (w.drew.alloc (.cells (((iU l).map (Value.int .u64)).toArray ++ Builtin.zeroCells (Value.int .u64 0).cells (G - n)) 52)) = w2 at *
 unfold Oper.wp execOp
 simp only [ho,resolve,invoke,builtin,Sem.run_bind,Sem.run_pure,Result.andThen_ok,List.map_toArray,List.map_cons,List.map_nil,hs,hy,hr]
 exact hK _ _ (h G w2 hG hG2 HS HB)
def CloU (l : List Nat) (w : World) (e : Ending) (w' : World) : Prop :=
 Below w.heap.size w w' ∧ ((l = [] ∧ ∃ p,e = .returned (.slice p 0 0)) ∨ ∃ G t,l ≠ [] ∧ e = .returned (.slice (some ⟨w.heap.size + 1,0,none⟩) l.length G) ∧ SoAt w' (w.heap.size + 1) (iU l).toArray t ∧ l.length ≤ G ∧ G ≤ maxLen)
theorem q40 (a : Option Addr) (n c : Nat) (l : List Nat) (w : World) (hS : USl w a n c l) (hn : n ≤ 1000000) :
  Calls Tryz.prog 45 #[.slice a n c] w (CloU l w) := by
 have hln := hS.len
 cases a with
 | none =>
  have hc0 := hS.nn rfl
  have hn0 : n = 0 := by have := hS.hcap; omega
  subst hc0 hn0
  have hl : l = [] := List.eq_nil_of_length_eq_zero hln.symm
  subst hl
  clear hln hS hn
  have hnil := fun w => _root_.Go.run_eql_slice_nil (P := Tryz.prog) w 33 52 none 0 0 Tryz.underlying33
  dsimp only [Option.isNone] at hnil
  go_enter Tryz.func45,Tryz.ntmps45
  go_wp2
  go_ret
  exact ⟨Below.refl _ _,Or.inl ⟨rfl,none,rfl⟩⟩
 | some x =>
  obtain ⟨i0,hi,hz0,hz1,hz2⟩ := info_parts q2h
  have hnil := fun w => _root_.Go.run_eql_slice_nil (P := Tryz.prog) w 33 52 (some x) n c Tryz.underlying33
  dsimp only [Option.isNone] at hnil
  by_cases h0 : n = 0
  ·subst h0
   have hl : l = [] := List.eq_nil_of_length_eq_zero hln.symm
   subst hl
   have hown := q6P w 52
   have HI : Hid (Tryz.prog.info? 52 = some i0) := hi
   have HZ1 : Hid (i0.size = 1) := hz1
   have HB : Hid (∀ w1,(w.alloc (.cells #[] 52)).grownBy w1 (some w.heap.size) → Below w.heap.size w w1) := fun w1 h2 => ((Below.refl _ _).alloc (Nat.le_refl _) _).grown h2 (by simp) (fun k hk => by cases hk; exact Nat.le_refl _)
   clear hi hz0 hz1 hz2 hS hln hn
   go_enter Tryz.func45,Tryz.ntmps45
   go_wp2_with (at_builtin; refine wpList_append_fits_any _ rfl _ _ 33 rfl w.heap.size 52 i0 1 Tryz.underlying33 HI.out HZ1.out w.heap.size 0 0 [] rfl hown (some x) 0 c [] rfl rfl (fun h => by cases h) (fun _ _ j u hj => by simp at hj) (fun _ h => by cases h) (Nat.le_refl _) ?_)
   intro w1 hown1 hgrow1
   have HE := HB.out w1 hgrow1
   clear hown1 hgrow1 hown
   go_wp2
   go_ret
   exact ⟨HE,Or.inl ⟨rfl,_,rfl⟩⟩
  ·have hl0 : l ≠ [] := fun e => h0 (by rw [hln,e]; rfl)
   have HL : Hid (n = l.length) := hln
   have HU : Hid _ := hS.up (qe w (.cells #[] 52))
   clear hi hz0 hz1 hz2 hS hln
   go_enter Tryz.func45,Tryz.ntmps45
   go_wp2_with (at_builtin; refine q5l rfl _ _ rfl w.heap.size x n c l rfl rfl HU.out (by omega) hn ?_)
   intro G w2 hG hG2 HS HB
   have HS2 : Hid _ := HS
   have HB2 : Hid (Below w.heap.size w w2) := (qe w (.cells #[] 52)).trans (HB.mono (Nat.le_succ _))
   have hgl : Hid (n ≤ G ∧ G ≤ maxLen) := ⟨hG,hG2⟩
   clear HS HB hG hG2 HU
   go_wp2
   go_ret
   exact ⟨HB2.out,Or.inr ⟨G,List.replicate (G - n) 0,hl0,by rw [← HL.out]; simp,HS2.out,by rw [← HL.out]; exact hgl.out.1,hgl.out.2⟩⟩
theorem SoAt.usl {w : World} {g n G : Nat} {s : List Nat} {d : Array Int} {t : List Int} (h : SoAt w g d t) (hd : d.toList = iU s) (hn : s.length = n) (hG : n ≤ G) (hm : G ≤ maxLen) : USl w (some ⟨g,0,none⟩) n G s := by
 have had : ∀ k,adOf (some ⟨g,0,none⟩) k = ⟨g,k,none⟩ := fun k => by simp [adOf,qn]
 have hsz : d.size = n := by rw [← Array.length_toList,hd]; simpa using hn
 refine ⟨by simp [hn],hG,hm,fun m k w hk hm => q1I Tryz.underlying33 q2P (by simp) k w hk,fun k hk => ?_,fun k hk => ?_,by simp⟩
 ·rw [had,h.cell (by omega : k < d.size)]
  congr 2
  rw [← hd,List.getD_eq_getElem?_getD]
  simp [show k < d.size by omega]
 ·rw [had]; exact h.lt
theorem q7m {w : World} {base n : Nat} {v : Value} {l : List Nat} (h : w.ownsRow base 52 1 v n ((iU l).map (Value.int .u64))) : ∃ a c,v = .slice a n c ∧ USl w a n c l := by
 obtain ⟨a,c,h1,h2,_⟩ := qaO h Tryz.underlying33 q2P
 exact ⟨a,c,h1,h2⟩
theorem qcw {w : World} {base n : Nat} {v : Value} {l : List Nat} (h : w.ownsRow base 52 1 v n ((iU l).map (Value.int .u64))) : ∃ a c,v = .slice a n c ∧ USl w a n c l ∧ ∀ k,k < n → base ≤ (adOf a k).block := by
 obtain ⟨a,c,h1,h2,h3,_⟩ := qaO h Tryz.underlying33 q2P
 exact ⟨a,c,h1,h2,h3⟩
def LRN (r : List Nat) (w : World) (e : Ending) (w' : World) : Prop := ∃ (a : Option Addr) (c : Nat),e = .returned (.slice a r.length c) ∧ USl w' a r.length c r ∧ Below w.heap.size w w' ∧ ∀ k,k < r.length → w.heap.size ≤ (adOf a k).block
def LEN (E : Nat) (r : List Nat) (w : World) (e : Ending) (w' : World) : Prop := ∃ (a : Option Addr) (c : Nat),e = .returned (.tuple #[.slice a r.length c,.int .i64 (E : Int)]) ∧ USl w' a r.length c r ∧ Below w.heap.size w w' ∧ ∀ k,k < r.length → w.heap.size ≤ (adOf a k).block
theorem q7j (l : List Nat) (x : Nat) : iU (l ++ [x]) = iU l ++ [(x : Int)] := by simp [iU]
theorem q3P (a : Option Addr) (n c : Nat) (l : List Nat) (w : World) (hS : USl w a n c l) (sL : Sm l) (hn : n ≤ 1000000) :
  Calls Tryz.prog 51 #[.slice a n c] w (LRN (leastL l) w) := by
 have hln := hS.len
 have hcl := q40 a n c l w hS hn
 have hso : ∀ w1,Below w.heap.size w w1 → ∀ e,CloU l w e w1 → ∃ p G,e = .returned (.slice p n G) ∧ Calls Tryz.prog 83 #[.slice p n G] w1 fun e w2 => e = .returned (.tuple #[]) ∧ ∃ s : List Nat,s.Perm l ∧ s.Pairwise (· ≤ ·) ∧ USl w2 p n G s ∧ Below w.heap.size w w2 := by
  intro w1 hb1 e ⟨hb,hh⟩
  rcases hh with ⟨rfl,p,rfl⟩ | ⟨G,t,h0,rfl,hA,hG1,hG2⟩
  ·obtain rfl : n = 0 := hln
   refine ⟨p,0,rfl,(q6W p 0 w1).mono ?_⟩
   rintro e w2 ⟨rfl,rfl⟩
   refine ⟨rfl,[],List.Perm.refl _,List.Pairwise.nil,?_,hb⟩
   exact ⟨rfl,Nat.le_refl _,Nat.zero_le _,fun m k w hk hm => absurd hk (by omega),fun k hk => absurd hk (by omega),fun k hk => absurd hk (by omega),fun _ => rfl⟩
  ·have hsz : (iU l).toArray.size = n := by simp [hln]
   have h := q8z (w.heap.size + 1) G (iU l).toArray t w1 hA (by rw [hsz]; exact hn)
   rw [hsz] at h
   refine ⟨some ⟨w.heap.size + 1,0,none⟩,G,by rw [← hln],h.mono ?_⟩
   rintro e w2 ⟨rfl,d,hp,hu,h2,hg⟩
   obtain ⟨s,hs1,hs2,hs3⟩ := qd6 (l := l) (d := d.toList) (by simpa [iU] using hp) hu
   refine ⟨rfl,s,hs2,hs3,h2.usl hs1 (by rw [hs2.length_eq,hln]) (by rw [hln]; exact hG1) hG2,?_⟩
   exact hb.grown hg hb.size (fun k hk => by cases hk; omega)
 have HSO : Hid _ := hso
 have HP : Hid (∀ s : List Nat,s.Perm l → Sm s ∧ s.length = n ∧ leastL s = leastL l) := fun s h => ⟨fun x hx => sL x (h.mem_iff.1 hx),by rw [h.length_eq,hln],qaX h⟩
 clear hS sL hso hln
 go_enter Tryz.func51,Tryz.ntmps51
 go_wp2_with fail
 refine hcl.mono ?_
 intro e w1 hC
 obtain ⟨p,G,rfl,hsort⟩ := HSO.out w1 hC.1 e hC
 clear hC hcl HSO
 go_wp2_with fail
 refine hsort.mono ?_
 rintro e w2 ⟨rfl,s,hs1,hs2,hU,hB⟩
 clear hsort
 obtain ⟨sS,sN,sL2⟩ := HP.out s hs1
 clear HP hs1
 have HT : Hid (∀ k,k < n → leastL (s.take (k + 1)) = if hoB (leastL (s.take k)) (s.getD k 0) then leastL (s.take k) else leastL (s.take k) ++ [s.getD k 0]) := fun k hk => qb8 hs2 (by omega)
 have HE : Hid (leastL (s.take n) = leastL l) := by show _ = _; rw [List.take_of_length_le (by omega)]; exact sL2
 have HM : Hid (∀ k,Sm (leastL (s.take k)) ∧ (leastL (s.take k)).length ≤ n) := fun k => ⟨fun x hx => sS x (List.mem_of_mem_take (q2x hx)),by have := q4j (s.take k); rw [List.length_take] at this; omega⟩
 have HC : Hid (∀ k,k < n → ∀ wr,Below w2.heap.size w2 wr → wr.cell? (adOf p k) = some (.int .u64 ((s.getD k 0 : Nat) : Int))) := fun k hk wr hb => by
  rw [(hU.up hb).cell k hk]
  congr 2
  simp only [List.getD_eq_getElem?_getD,iU,List.getElem?_map]
  cases s[k]? <;> rfl
 have HX : Hid (∀ k,k < n → s.getD k 0 < 2 ^ 64) := fun k hk => by
  have hk' : k < s.length := by omega
  rw [List.getD_eq_getElem?_getD,List.getElem?_eq_getElem hk']
  exact sS _ (List.getElem_mem hk')
 have hidx := fun (k : Nat) (w : World) (h : k < n) => hU.idx n k w h (Nat.le_refl _)
 have HB0 : Hid (Below w.heap.size w w2) := hB
 clear hU hs2 sS sN sL2 hB
 go_wp2
 go_loopw [4,13] (fun v i wr => ∃ k : Nat,k ≤ n ∧ i = .int .i64 (k : Int) ∧ Hid (wr.ownsRow w2.heap.size 52 1 v (leastL (s.take k)).length ((iU (leastL (s.take k))).map (Value.int .u64))) ∧ Hid (Below w2.heap.size w2 wr)) (fun _ i _ => n - (intOf i).toNat)
 case atStart => exact ⟨0,Nat.zero_le _,rfl,⟨rfl,Or.inl ⟨rfl,rfl⟩⟩,Below.refl _ _⟩
 case round =>
  obtain ⟨k,hk,rfl,HO,HW⟩ := hrel
  obtain ⟨va,vc,rfl,hUs⟩ := q7m HO.out
  by_cases hlt : k < n
  ·have hc := HC.out k hlt wr HW.out
   have hx := fun w' => hidx k w' hlt
   have hho := q2G va _ vc _ (s.getD k 0) wr hUs (HM.out k).1 (HX.out k hlt)
   have HS : Hid _ := HT.out k hlt
   have hb := (HM.out k).2
   clear HC HX HT HM hidx hUs
   generalize s.getD k 0 = x at *
   have HL : Hid (leastL (s.take k) = leastL (s.take k)) := rfl
   generalize hq : leastL (s.take k) = r at *
   clear HL
   by_cases hh : hoB r x = true
   ·rw [hh] at hho
    have HSE : Hid (leastL (s.take (k + 1)) = r) := by show _ = _; rw [HS.out,if_pos hh]
    clear HS hh
    go_wp2_with fail
    refine hho.mono ?_
    rintro e w3 ⟨rfl,hb3⟩
    have HO3 : Hid _ := qZ HO.out hb3
    have HW3 : Hid _ := HW.out.trans (hb3.mono HW.out.size)
    clear hho HO HW hb3
    go_wp2
    go_roundw
    case rel => exact ⟨k + 1,by omega,by go_num,by rw [HSE.out]; exact HO3,HW3⟩
    case measure => simp [intOf]; omega
   ·have hh2 : hoB r x = false := by cases h : hoB r x; rfl; exact absurd h hh
    rw [hh2] at hho
    have HSE : Hid (leastL (s.take (k + 1)) = r ++ [x]) := by show _ = _; rw [HS.out,if_neg hh]
    clear HS hh hh2
    go_wp2_with fail
    refine hho.mono ?_
    rintro e w3 ⟨rfl,hb3⟩
    have HO3 : Hid _ := qZ HO.out hb3
    have HW3 : Hid (Below w2.heap.size w2 w3) := HW.out.trans (hb3.mono HW.out.size)
    clear hho HO HW hb3
    have HOA : Hid ((w3.alloc (.cells #[.int .u64 (x : Int)] 52)).ownsRow w2.heap.size 52 1 (.slice va r.length vc) r.length ((iU r).map (Value.int .u64))) := World.ownsRow.alloc HO3.out _
    have HCA : Hid ((w3.alloc (.cells #[.int .u64 (x : Int)] 52)).cell? ⟨w3.heap.size,0,none⟩ = some (.int .u64 (x : Int))) := qb (MapKept.heap_alloc w3 _).1 0
    have HWA : Hid (Below w2.heap.size w2 (w3.alloc (.cells #[.int .u64 (x : Int)] 52))) := HW3.out.alloc HW3.out.size _
    have hszA : w2.heap.size ≤ (w3.alloc (.cells #[.int .u64 (x : Int)] 52)).heap.size := HWA.out.size
    have HGE : Hid (∀ q,(Value.slice va r.length vc).ownBlock = some q → w2.heap.size ≤ q) := q3Y HO3.out
    clear HO3 HW3
    go_wp2_with (at_builtin; refine q4u rfl _ _ rfl w2.heap.size _ r.length (iU r) rfl HOA.out w3.heap.size (x : Int) rfl HCA.out (by omega) hszA ?_)
    intro v7 w7 hown7 hgr7
    have HO7 : Hid (w7.ownsRow w2.heap.size 52 1 v7 (r.length + 1) ((iU r ++ [(x : Int)]).map (Value.int .u64))) := by show World.ownsRow _ _ _ _ _ _ _; simpa using hown7
    have HW7 : Hid (Below w2.heap.size w2 w7) := HWA.out.grown hgr7 hszA (fun q e => HGE.out q e)
    clear hown7 hgr7 HOA HCA HWA hszA HGE
    go_wp2
    go_roundw
    case rel =>
     refine ⟨k + 1,by omega,by go_num,?_,HW7⟩
     show World.ownsRow _ _ _ _ _ _ _
     rw [HSE.out,List.length_append,q7j]
     exact HO7.out
    case measure => simp [intOf]; omega
  ·obtain rfl : k = n := by omega
   obtain ⟨va2,vc2,hv2,hU2,hf2⟩ := qcw HO.out
   injection hv2 with hv2 _ hv3
   subst hv2 hv3
   have HUs : Hid _ := hUs
   have HFS : Hid _ := hf2
   clear hUs hU2 hf2
   go_wp2
   go_ret
   refine ⟨va,vc,?_,?_,qf HB0.out HW.out,?_⟩
   ·rw [← HE.out]; rfl
   ·rw [← HE.out]; exact HUs.out
   ·rw [← HE.out]; exact fun k hk => Nat.le_trans HB0.out.size (HFS.out k hk)
theorem q6A (n : Nat) : (Builtin.zeroCells (Value.int .u64 0).cells n).size = n * 1 := by
 rw [size_zeroCells]; rfl
theorem qc8 (l k : List Nat) : iU (l ++ k) = iU l ++ iU k := by simp [iU]
theorem q7e {w : World} {ops : Array Oper} {rest : List Oper} {o : Oper} {a : Act} {Q : Exit → Act → World → Prop} (hgd : o.guard = none) (s x : Operand)
  (ho : o.op = .call { callee := .builtin .append,args := #[s,x],argTypes := #[33,33] }) (base : Nat)
  (v : Value) (xs ys : List Nat) (b : Option Addr) (len cap : Nat) (hs : a.eval s = v) (hx : a.eval x = .slice b len cap) (hown : w.ownsRow base 52 1 v xs.length ((iU xs).map (Value.int .u64))) (hT : USl w b len cap ys)
  (hn : xs.length ≤ 10000000) (hm : ys.length ≤ 10000000) (hbase : base ≤ w.heap.size)
  (h : ∀ v' w',w'.ownsRow base 52 1 v' (xs ++ ys).length ((iU (xs ++ ys)).map (Value.int .u64)) → w.grownBy w' v.ownBlock → wpList Tryz.prog ops Q rest (a.put o.dst v') w') : wpList Tryz.prog ops Q (o :: rest) a w := by
 obtain ⟨i,hi,hz0,hz1,hz2⟩ := info_parts q2h
 have hl := hT.len
 cases b with
 | none =>
  have hc := hT.nn rfl
  have hcl := hT.hcap
  obtain rfl : len = 0 := by omega
  subst hc
  have hy : ys = [] := List.eq_nil_of_length_eq_zero hl.symm
  subst hy
  refine wpList_plain hgd fun _ hK => ?_
  have hrun := run_append_owned_none (P := Tryz.prog) w base 33 o.type 52 i 1 Tryz.underlying33 hi v xs.length _ hown
  unfold Oper.wp execOp
  simp only [ho,resolve,invoke,builtin,Sem.run_bind,Sem.run_pure,Result.andThen_ok,List.map_toArray,List.map_cons,List.map_nil,hs,hx,hrun]
  refine hK _ _ ?_
  exact h v w (by rw [List.append_nil]; exact hown) (World.grownBy.refl _ _)
 | some y =>
  refine wpList_append_own w hgd s x 33 ho base 52 i _ 1 8 Tryz.underlying33 hi hz0 hz1 hz2 rfl (by decide) v xs.length _ hs hown y len cap ((iU ys).map (Value.int .u64)) hx (by simp [hl]) (q7V hT) (ints_oneCell .u64 (iU ys)) (by unfold maxLen; omega) (by omega) hbase ?_
  intro v' w' h1 h2 _
  exact h v' w' (by rw [qc8,List.map_append,List.length_append,← hl]; exact h1) h2
theorem q4T {w : World} {ops : Array Oper} {rest : List Oper} {o : Oper} {a : Act} {Q : Exit → Act → World → Prop} (hgd : o.guard = none) (s x : Operand)
  (ho : o.op = .call { callee := .builtin .append,args := #[s,x],argTypes := #[33,3] }) (n : Nat) (hs : a.eval s = .slice none 0 0) (hx : a.eval x = .int .i64 (n : Int)) (h0 : 0 < n) (hn : n ≤ 1000000)
  (h : ∀ G w',n ≤ G → w'.ownsRow w.heap.size 52 1 (.slice (some ⟨w.heap.size,0,none⟩) 0 G) 0 (([] : List Value)) → Below w.heap.size w w' → wpList Tryz.prog ops Q rest (a.put o.dst (.slice (some ⟨w.heap.size,0,none⟩) n G)) w') : wpList Tryz.prog ops Q (o :: rest) a w := by
 refine wpList_plain hgd fun _ hK => ?_
 obtain ⟨i,hi,hz0,hz1,hz2⟩ := info_parts q2h
 have hrz : ∀ ty,(Builtin.append_ #[33,3] ty #[.slice none 0 0,.int .i64 (n : Int)]).run Tryz.prog w = .ok (.slice (some ⟨w.heap.size,0,none⟩) n (grownCap w n 0 52)) (w.drew.alloc (.cells (Builtin.zeroCells (Value.int .u64 0).cells n ++ Builtin.zeroCells (Value.int .u64 0).cells (grownCap w n 0 52 - n)) 52)) := fun ty => by
  have h := Lib.run_append_grow_zeros w 33 3 ty 52 i (.int .u64 0) .i64 .i64 Tryz.underlying33 Tryz.underlying3 hi hz0 none 0 0 [] (run_firstCells_none w.drew i.size 0 0 0) n (by omega) (by omega) (by omega) (by omega) (by rw [hz2]; omega) (growslice_fits (by omega) (by rw [hz2]; omega))
  simpa using h
 have hG := grownCap_ge w n 0 52
 have hG2 := grownCap_le_maxLen w n 0 52 (by unfold maxLen; omega)
 have hcs : (Builtin.zeroCells (Value.int .u64 0).cells n ++ Builtin.zeroCells (Value.int .u64 0).cells (grownCap w n 0 52 - n)).size = grownCap w n 0 52 * 1 := by
  rw [Array.size_append,q6A,q6A]; omega
 generalize Builtin.zeroCells (Value.int .u64 0).cells n ++ Builtin.zeroCells (Value.int .u64 0).cells (grownCap w n 0 52 - n) = cs at *
 generalize grownCap w n 0 52 = G at *
 have HW : (w.drew.alloc (.cells cs 52)).ownsRow w.heap.size 52 1 (.slice (some ⟨w.heap.size,0,none⟩) 0 G) 0 (([] : List Value)) := ⟨rfl,Or.inr ⟨w.heap.size,G,cs,rfl,Nat.le_refl _,(MapKept.heap_alloc w.drew _).1,Nat.zero_le _,hG2,hcs,rfl⟩⟩
 have HB : Below w.heap.size w (w.drew.alloc (.cells cs 52)) := (Below.refl _ w).drew.alloc (Nat.le_refl _) _
 have hrun := hrz o.type
 unfold Oper.wp execOp
 simp only [ho,resolve,invoke,builtin,Sem.run_bind,Sem.run_pure,Result.andThen_ok,List.map_toArray,List.map_cons,List.map_nil,hs,hx,hrun]
 exact hK _ _ (h G _ hG HW HB)
theorem q7a (n : Nat) (w : World) (hn : n ≤ 1000000) :
  Calls Tryz.prog 148 #[.slice none 0 0,.int .i64 (n : Int)] w fun e w' => ∃ v,e = .returned v ∧ w'.ownsRow w.heap.size 52 1 v 0 (([] : List Value)) ∧ Below w.heap.size w w' := by
 have h1 : ¬ ((n : Int) < 0) := by omega
 by_cases h0 : n = 0
 ·subst h0
  go_enter Tryz.func148,Tryz.ntmps148
  go_wp2
  go_ret
  exact ⟨_,rfl,⟨rfl,Or.inl ⟨rfl,rfl⟩⟩,Below.refl _ _⟩
 ·have hpos : (0 : Int) < (n : Int) := by omega
  have hw2 : IntKind.i64.wrap ((n : Int) - 0) = (n : Int) := by rw [IntKind.wrap_i64]; omega
  go_enter Tryz.func148,Tryz.ntmps148
  go_wp2_with (at_builtin; refine q4T rfl _ _ rfl n rfl rfl (by omega) hn ?_)
  intro G w' hG HW HB
  have HW1 : Hid (World.ownsRow w' w.heap.size 52 1 (.slice (some ⟨w.heap.size,0,none⟩) 0 G) 0 (([] : List Value))) := HW
  clear HW
  have hG0 : G ≠ 0 := by omega
  go_wp2
  go_ret
  exact ⟨.slice (some ⟨w.heap.size,0,none⟩) 0 G,rfl,HW1.out,HB⟩
structure PcU where
 a : Option Addr
 len : Nat
 cap : Nat
 ts : List Nat
def joinU (ps : List PcU) : List Nat := ps.flatMap (·.ts)
def lensU (ps : List PcU) (k : Nat) : Nat := (joinU (ps.take k)).length
theorem q6r {ps : List PcU} {k : Nat} (h : k < ps.length) : joinU (ps.take (k + 1)) = joinU (ps.take k) ++ ps[k].ts := by
 unfold joinU; rw [List.take_add_one,List.getElem?_eq_getElem h,List.flatMap_append]; simp
theorem qcv (ps : List PcU) (k : Nat) : (joinU (ps.take k)).length ≤ (joinU ps).length := by
 have h : joinU ps = joinU (ps.take k) ++ joinU (ps.drop k) := by
  unfold joinU; rw [← List.flatMap_append,List.take_append_drop]
 rw [h,List.length_append]; omega
theorem q4I : (Tryz.prog.info? 33).map (·.size) = some 1 := by kernel_rfl
theorem q5N (g : Nat) (ps : List PcU) (w : World) (hc : ∀ k (h : k < ps.length),w.cell? ⟨g,k,none⟩ = some (.slice ps[k].a ps[k].len ps[k].cap)) (hg : g < w.heap.size) (hT : ∀ p ∈ ps,USl w p.a p.len p.cap p.ts) (hn : (joinU ps).length ≤ 1000000) (hp : ps.length ≤ 1000) :
  Calls Tryz.prog 130 #[.slice (some ⟨g,0,none⟩) ps.length ps.length] w fun e w' => ∃ v,e = .returned v ∧ w'.ownsRow w.heap.size 52 1 v (joinU ps).length ((iU (joinU ps)).map (Value.int .u64)) ∧ Below w.heap.size w w' := by
 have hix : ∀ k w',k < ps.length → (Instr.indexAt 56 (.slice (some ⟨g,0,none⟩) ps.length ps.length) (.int .i64 (k : Nat))).run Tryz.prog w' = .ok (.pointer (some ⟨g,k,none⟩)) w' := fun k w' h => by
  have := q1I (a := some ⟨g,0,none⟩) (cap := ps.length) (n := ps.length) Tryz.underlying56 q4I (by simp) k w' h
  simpa [adOf,qn] using this
 have HC : Hid _ := hc
 have HT : Hid _ := hT
 clear hc hT
 have hgr := fun (n : Nat) (h : n ≤ 1000000) w' => q7a n w' h
 obtain ⟨n,hnn⟩ : ∃ n,n = ps.length := ⟨_,rfl⟩
 have HN : Hid (n = ps.length) := hnn
 rw [← hnn] at hp hix ⊢
 clear hnn
 have hbk0 : ∀ k,(joinU (ps.take k)).length ≤ 1000000 := fun k => Nat.le_trans (qcv ps k) hn
 go_enter Tryz.func130,Tryz.ntmps130
 go_wp2
 go_loopw [3,11] (fun s j wr => ∃ k : Nat,k ≤ n ∧ j = .int .i64 k ∧ s = .int .i64 (lensU ps k : Nat) ∧ wr = w) (fun _ j _ => n - (intOf j).toNat)
 case atStart => exact ⟨0,Nat.zero_le _,rfl,by simp [lensU,joinU],rfl⟩
 case round =>
  obtain ⟨k,hk,rfl,rfl,hww⟩ := hrel
  obtain rfl : w = wr := hww.symm
  by_cases hlt : k < n
  ·have hkl : k < ps.length := by rw [← HN.out]; exact hlt
   have hi := fun w' => hix k w' hlt
   have hc1 := HC.out k hkl
   have hl := (HT.out ps[k] (List.getElem_mem hkl)).len
   have HLL : Hid _ := hl
   have HS : Hid (lensU ps (k + 1) = lensU ps k + ps[k].len) := by
    show _ = _; unfold lensU; rw [q6r hkl,List.length_append,hl]
   have hb1 : lensU ps k + ps[k].len ≤ 1000000 := by rw [← HS.out]; exact hbk0 (k + 1)
   generalize lensU ps k = S at *
   generalize ps[k] = p at *
   obtain ⟨pa,pl,pc,pt⟩ := p
   dsimp only at *
   have hw : IntKind.i64.wrap ((S : Int) + (pl : Int)) = ((S + pl : Nat) : Int) := by rw [IntKind.wrap_i64]; omega
   have hneg : ¬ (((S + pl : Nat) : Int) < 0) := by omega
   clear hix
   go_wp2
   go_roundw
   case rel => exact ⟨k + 1,by omega,by go_num,by rw [HS.out]; simp [HLL.out],trivial⟩
   case measure => simp [intOf]; omega
  ·obtain rfl : k = n := by omega
   have hbn := hbk0 k
   have HJ : Hid (joinU (ps.take k) = joinU ps) := by show _ = _; rw [List.take_of_length_le (by rw [HN.out]; exact Nat.le_refl _)]
   have hgn := hgr (lensU ps k) hbn
   generalize lensU ps k = S at *
   clear hix
   have hix : ∀ j w',j < k → (Instr.indexAt 56 (.slice (some ⟨g,0,none⟩) k k) (.int .i64 (j : Nat))).run Tryz.prog w' = .ok (.pointer (some ⟨g,j,none⟩)) w' := fun j w' h => by
    have := q1I (a := some ⟨g,0,none⟩) (cap := k) (n := k) Tryz.underlying56 q4I (by simp) j w' h
    simpa [adOf,qn] using this
   go_wp2_with fail
   refine (hgn _).mono ?_
   rintro e w1 ⟨v,rfl,hown,hw1⟩
   have HO : Hid (w1.ownsRow w.heap.size 52 1 v 0 (([] : List Value))) := hown
   clear hown
   go_wp2
   go_loopw [6,27] (fun s j w2 => ∃ m : Nat,m ≤ k ∧ j = .int .i64 m ∧ Hid (w2.ownsRow w.heap.size 52 1 s (joinU (ps.take m)).length ((iU (joinU (ps.take m))).map (Value.int .u64))) ∧ Hid (Below w.heap.size w w2)) (fun _ j _ => k - (intOf j).toNat)
   case atStart => exact ⟨0,Nat.zero_le _,rfl,HO,hw1⟩
   case round =>
    obtain ⟨m,hm,rfl,HO2,hb2⟩ := hrel
    by_cases hltm : m < k
    ·have hml : m < ps.length := by rw [← HN.out]; exact hltm
     have hi := fun w' => hix m w' hltm
     have hc1 := (hb2.out.cell hg).trans (HC.out m hml)
     have hTm := (HT.out ps[m] (List.getElem_mem hml)).up hb2.out
     have HS : Hid (joinU (ps.take (m + 1)) = joinU (ps.take m) ++ ps[m].ts) := q6r hml
     have hbm := hbk0 m
     have hpm : ps[m].ts.length ≤ 1000000 := by
      have := hbk0 (m + 1); rw [HS.out,List.length_append] at this; omega
     have hlt := World.ownsRow.lt HO2.out
     have hsz := hb2.out.size
     generalize joinU (ps.take m) = J at *
     generalize ps[m] = p at *
     obtain ⟨pa,pl,pc,pt⟩ := p
     dsimp only at *
     clear hix
     go_wp2_with (at_builtin; refine q7e rfl _ _ rfl w.heap.size _ J pt pa pl pc rfl rfl HO2.out hTm (by omega) (by omega) (by omega) ?_)
     intro v3 w3 hown3 hgr3
     have HO3 : Hid (w3.ownsRow w.heap.size 52 1 v3 (J ++ pt).length ((iU (J ++ pt)).map (Value.int .u64))) := by show World.ownsRow _ _ _ _ _ _ _; rw [List.length_append]; simpa using hown3
     have hb3 : Hid (Below w.heap.size w w3) := hb2.out.grown hgr3 hsz (fun j e => (hlt j e).1)
     clear hown3 hgr3
     go_wp2
     go_roundw
     case rel => exact ⟨m + 1,by omega,by go_num,by rw [HS.out]; exact HO3,hb3⟩
     case measure => simp [intOf]; omega
    ·obtain rfl : m = k := by omega
     have HF : Hid _ := HO2.out
     rw [HJ.out] at HF
     go_wp2
     go_ret
     exact ⟨_,rfl,HF.out,hb2.out⟩
theorem qap (a : Option Addr) (n c : Nat) (l : List Nat) (b : Option Addr) (m d : Nat) (k : List Nat) (w : World) (hA : USl w a n c l) (hB : USl w b m d k) (sL : Sm l) (sK : Sm k) (hn : n + m ≤ 1024) :
  Calls Tryz.prog 113 #[.slice a n c,.slice b m d] w (LEN 0 (leastL (l ++ k)) w) := by
 have hl := hA.len
 have hk := hB.len
 have hbn := qe w (.cells #[.slice a n c,.slice b m d] 33)
 have hrow := (MapKept.heap_alloc w (.cells #[.slice a n c,.slice b m d] 33)).1
 have hj : joinU [⟨a,n,c,l⟩,⟨b,m,d,k⟩] = l ++ k := by simp [joinU]
 have hcc := q5N w.heap.size [⟨a,n,c,l⟩,⟨b,m,d,k⟩] (w.alloc (.cells #[.slice a n c,.slice b m d] 33)) (fun i hi => by
   rw [qb hrow i]
   match i,hi with
   | 0,_ => rfl
   | 1,_ => rfl) (by simp) (fun p hp => by
   rcases List.mem_cons.1 hp with rfl | hp
   ·exact hA.up hbn
   ·rcases List.mem_cons.1 hp with rfl | hp
    ·exact hB.up hbn
    ·cases hp) (by rw [hj,List.length_append]; omega) (by simp)
 rw [hj] at hcc
 dsimp only [List.length_cons,List.length_nil,Nat.zero_add,Nat.reduceAdd] at hcc
 have HL : Hid (∀ w1 v,w1.ownsRow (w.alloc (.cells #[.slice a n c,.slice b m d] 33)).heap.size 52 1 v (l ++ k).length ((iU (l ++ k)).map (Value.int .u64)) → ∃ q C,v = .slice q (l ++ k).length C ∧ Calls Tryz.prog 51 #[.slice q (l ++ k).length C] w1 (LRN (leastL (l ++ k)) w1)) := fun w1 v ho => by
  obtain ⟨q,C,rfl,hU⟩ := q7m ho
  exact ⟨q,C,rfl,q3P q _ C _ w1 hU (qbK sL sK) (by rw [List.length_append]; omega)⟩
 have HBN : Hid _ := hbn
 have hw1 : IntKind.i64.wrap ((n : Int) + (m : Int)) = ((n + m : Nat) : Int) := by rw [IntKind.wrap_i64]; omega
 have hg1 : ¬ ((1024 : Int) < ((n + m : Nat) : Int)) := by omega
 have hb1 := hA.bd
 have hb2 := hB.bd
 clear hbn hrow hA hB sL sK hj hl hk
 generalize leastL (l ++ k) = r at *
 generalize l ++ k = lk at *
 go_enter Tryz.func113,Tryz.ntmps113
 go_wp2_with fail
 refine hcc.mono ?_
 rintro e w1 ⟨v,rfl,hown,hb⟩
 obtain ⟨q,C,rfl,hle⟩ := HL.out w1 v hown
 have HB1 : Hid (Below w.heap.size w w1) := qf HBN.out hb
 clear hown hb hcc HL HBN
 go_wp2_with fail
 refine hle.mono ?_
 rintro e w2 ⟨q2,C2,rfl,hU2,hb2,hf2⟩
 have HU : Hid _ := hU2
 have HB2 : Hid (Below w.heap.size w w2) := qf HB1.out hb2
 have HFS : Hid (∀ k,k < r.length → w.heap.size ≤ (adOf q2 k).block) := fun k hk => Nat.le_trans HB1.out.size (hf2 k hk)
 clear hU2 hb2 HB1 hle hf2
 go_wp2
 go_ret2
 exact ⟨q2,C2,rfl,HU.out,HB2.out,HFS.out⟩
theorem qb9 (a : Option Addr) (n c : Nat) (b : Option Addr) (m d : Nat) (w : World) (hn1 : n ≤ 1000000) (hn2 : m ≤ 1000000) (hn : 1024 < n + m) :
  Calls Tryz.prog 113 #[.slice a n c,.slice b m d] w (LE 9 [] w) := by
 have hw1 : IntKind.i64.wrap ((n : Int) + (m : Int)) = ((n + m : Nat) : Int) := by rw [IntKind.wrap_i64]; omega
 have hg1 : (1024 : Int) < ((n + m : Nat) : Int) := by omega
 go_enter Tryz.func113,Tryz.ntmps113
 go_wp2
 go_ret2
 exact ⟨none,0,rfl,q59,Below.refl _ _⟩
theorem q4o (n m : Nat) (w : World) (_hn : n ≤ 1000000) (_hm : m ≤ 1000000) :
  Calls Tryz.prog 129 #[.int .i64 (n : Int),.int .i64 (m : Int)] w fun e w' => e = .returned (.bool (decide (1024 < n * m))) ∧ w' = w := by
 by_cases h0 : n = 0
 ·subst h0
  go_enter Tryz.func129,Tryz.ntmps129
  go_wp2
  go_ret
  exact ⟨by simp,rfl⟩
 ·have hpos : (0 : Int) < (n : Int) := by omega
  have hne : ¬ ((n : Int) = 0) := by omega
  have hq : IntKind.i64.wrap ((1024 : Int).tdiv (n : Int)) = ((1024 / n : Nat) : Int) := by
   have : (1024 : Int).tdiv (n : Int) = ((1024 / n : Nat) : Int) := rfl
   rw [this,IntKind.wrap_i64]
   have h2 := Nat.div_le_self 1024 n
   generalize 1024 / n = q at *
   omega
  have HD : Hid (decide (1024 / n < m) = decide (1024 < n * m)) := by
   show _ = _
   have h1 : 1024 / n < m ↔ 1024 < n * m := by rw [Nat.div_lt_iff_lt_mul (by omega),Nat.mul_comm]
   by_cases h : 1024 < n * m
   ·rw [decide_eq_true h,decide_eq_true (h1.2 h)]
   ·rw [decide_eq_false h,decide_eq_false fun k => h (h1.1 k)]
  generalize 1024 / n = q at *
  go_enter Tryz.func129,Tryz.ntmps129
  go_wp2
  go_ret
  exact ⟨by rw [← HD.out]; rfl,rfl⟩
theorem qcq (l k : List Nat) (i j : Nat) (x : Nat) (hi : i < l.length) (hj : j ≤ k.length) : (uniL (l.take i) k ++ (k.take j).map fun y => x ||| y).length ≤ l.length * k.length := by
 rw [List.length_append,q3H,List.length_map,List.length_take,List.length_take,Nat.min_eq_left (by omega),Nat.min_eq_left hj]
 have : (i + 1) * k.length ≤ l.length * k.length := Nat.mul_le_mul_right _ hi
 rw [Nat.succ_mul] at this
 omega
theorem q5g {w : World} {a : Option Addr} {n c : Nat} {l : List Nat} (h : USl w a n c l) {k : Nat} (hk : k < n) : w.cell? (adOf a k) = some (.int .u64 ((l.getD k 0 : Nat) : Int)) := by
 rw [h.cell k hk]
 congr 2
 simp only [List.getD_eq_getElem?_getD,iU,List.getElem?_map]
 cases l[k]? <;> rfl
theorem qbv {l : List Nat} (h : Sm l) {k : Nat} (hk : k < l.length) : l.getD k 0 < 18446744073709551616 := by
 rw [List.getD_eq_getElem?_getD,List.getElem?_eq_getElem hk]
 exact h _ (List.getElem_mem hk)
theorem q9N (a : Option Addr) (n c : Nat) (l : List Nat) (b : Option Addr) (m d : Nat) (k : List Nat) (w : World) (hA : USl w a n c l) (hB : USl w b m d k) (sL : Sm l) (sK : Sm k) (hn : n * m ≤ 1024) (hn1 : n ≤ 2000) (hm1 : m ≤ 2000) :
  Calls Tryz.prog 112 #[.slice a n c,.slice b m d] w (LEN 0 (leastL (uniL l k)) w) := by
 have hl := hA.len
 have hk := hB.len
 have hmany := q4o n m w (by omega) (by omega)
 rw [decide_eq_false (by omega : ¬ (1024 < n * m))] at hmany
 have HL : Hid (∀ w1 v,w1.ownsRow w.heap.size 52 1 v (uniL l k).length ((iU (uniL l k)).map (Value.int .u64)) → ∃ q C,v = .slice q (uniL l k).length C ∧ Calls Tryz.prog 51 #[.slice q (uniL l k).length C] w1 (LRN (leastL (uniL l k)) w1)) := fun w1 v ho => by
  obtain ⟨q,C,rfl,hU⟩ := q7m ho
  exact ⟨q,C,rfl,q3P q _ C _ w1 hU (qec sL sK) (by rw [q3H,← hl,← hk]; omega)⟩
 have HLT : Hid (uniL (l.take n) k = uniL l k) := by show _ = _; rw [List.take_of_length_le (by omega)]
 have HN : Hid (∀ i,i < n → uniL (l.take (i + 1)) k = uniL (l.take i) k ++ (k.take m).map fun y => l.getD i 0 ||| y) := fun i hi => by
  rw [qcQ (by omega),List.take_of_length_le (l := k) (by omega)]
 have HM : Hid (∀ x j,j < m → ((k.take (j + 1)).map fun y => x ||| y) = ((k.take j).map fun y => x ||| y) ++ [x ||| k.getD j 0]) := fun x j hj => qd9 (by omega)
 have HW : Hid (∀ i j x,i < n → j ≤ m → (uniL (l.take i) k ++ (k.take j).map fun y => x ||| y).length ≤ 1024) := fun i j x hi hj => by
  have := qcq l k i j x (by omega) (by omega)
  rw [← hl,← hk] at this
  omega
 have HCA : Hid (∀ i,i < n → ∀ wr,Below w.heap.size w wr → wr.cell? (adOf a i) = some (.int .u64 ((l.getD i 0 : Nat) : Int))) := fun i hi wr hb => q5g (hA.up hb) hi
 have HCB : Hid (∀ i,i < m → ∀ wr,Below w.heap.size w wr → wr.cell? (adOf b i) = some (.int .u64 ((k.getD i 0 : Nat) : Int))) := fun i hi wr hb => q5g (hB.up hb) hi
 have HO : Hid (∀ i j,i < n → j < m → bits .or .u64 ((l.getD i 0 : Nat) : Int) ((k.getD j 0 : Nat) : Int) = ((l.getD i 0 ||| k.getD j 0 : Nat) : Int)) := fun i j hi hj => u64_or_nat _ _ (qbv sL (by omega)) (qbv sK (by omega))
 have hidA := fun (i : Nat) (w : World) (h : i < n) => hA.idx n i w h (Nat.le_refl _)
 have hidB := fun (i : Nat) (w : World) (h : i < m) => hB.idx m i w h (Nat.le_refl _)
 clear hA hB sL sK hl hk hn
 go_enter Tryz.func112,Tryz.ntmps112
 go_wp2_with fail
 refine hmany.mono ?_
 rintro e w0 ⟨rfl,hw0⟩
 obtain rfl : w = w0 := hw0.symm
 clear hmany
 go_wp2
 go_loopw [6,18] (fun v i wr => ∃ p : Nat,p ≤ n ∧ i = .int .i64 (p : Int) ∧ Hid (wr.ownsRow w.heap.size 52 1 v (uniL (l.take p) k).length ((iU (uniL (l.take p) k)).map (Value.int .u64))) ∧ Hid (Below w.heap.size w wr)) (fun _ i _ => n - (intOf i).toNat)
 case atStart => exact ⟨0,Nat.zero_le _,rfl,⟨rfl,Or.inl ⟨rfl,rfl⟩⟩,Below.refl _ _⟩
 case round =>
  obtain ⟨p,hp,rfl,HV,HB⟩ := hrel
  by_cases hlt : p < n
  ·have hc := HCA.out p hlt wr HB.out
   have hx := fun w' => hidA p w' hlt
   have HNp : Hid _ := HN.out p hlt
   have HWp : Hid (∀ j x,j ≤ m → (uniL (l.take p) k ++ (k.take j).map fun y => x ||| y).length ≤ 1024) := fun j x hj => HW.out p j x hlt hj
   have HOp : Hid (∀ j,j < m → bits .or .u64 ((l.getD p 0 : Nat) : Int) ((k.getD j 0 : Nat) : Int) = ((l.getD p 0 ||| k.getD j 0 : Nat) : Int)) := fun j hj => HO.out p j hlt hj
   have HMp : Hid (∀ j,j < m → ((k.take (j + 1)).map fun y => l.getD p 0 ||| y) = ((k.take j).map fun y => l.getD p 0 ||| y) ++ [l.getD p 0 ||| k.getD j 0]) := fun j hj => HM.out _ j hj
   clear hidA HCA HN HW HO HM HL HLT
   generalize l.getD p 0 = x at *
   generalize hU : uniL (l.take p) k = U at *
   clear hU
   go_wp2
   clear hc hx
   go_loopw [6,24] (fun v i w3 => ∃ j : Nat,j ≤ m ∧ i = .int .i64 (j : Int) ∧ Hid (w3.ownsRow w.heap.size 52 1 v (U ++ (k.take j).map fun y => x ||| y).length ((iU (U ++ (k.take j).map fun y => x ||| y)).map (Value.int .u64))) ∧ Hid (Below w.heap.size w w3)) (fun _ i _ => m - (intOf i).toNat)
   case atStart => exact ⟨0,Nat.zero_le _,rfl,by show World.ownsRow _ _ _ _ _ _ _; simpa using HV.out,HB⟩
   case round =>
    clear HV HB
    obtain ⟨j,hj,rfl,HV,HB⟩ := hrel
    by_cases hltj : j < m
    ·have hc := HCB.out j hltj _ HB.out
     have hx := fun w' => hidB j w' hltj
     have hor := HOp.out j hltj
     have HMj : Hid _ := HMp.out j hltj
     have hbd := HWp.out j x (by omega)
     obtain ⟨va,vc,rfl⟩ := qaP HV.out
     clear HWp HOp HMp HCB hidB HNp
     generalize k.getD j 0 = y at *
     generalize hR : (U ++ (k.take j).map fun y => x ||| y) = R at *
     have HRE : Hid (U ++ (k.take (j + 1)).map (fun y => x ||| y) = R ++ [x ||| y]) := by show _ = _; rw [HMj.out,← List.append_assoc,hR]
     clear HMj hR
     generalize x ||| y = z at *
     have HOA : Hid ((wr.alloc (.cells #[.int .u64 (z : Int)] 52)).ownsRow w.heap.size 52 1 (.slice va R.length vc) R.length ((iU R).map (Value.int .u64))) := World.ownsRow.alloc HV.out _
     have HCA : Hid ((wr.alloc (.cells #[.int .u64 (z : Int)] 52)).cell? ⟨wr.heap.size,0,none⟩ = some (.int .u64 (z : Int))) := qb (MapKept.heap_alloc wr _).1 0
     have HWA : Hid (Below w.heap.size w (wr.alloc (.cells #[.int .u64 (z : Int)] 52))) := HB.out.alloc HB.out.size _
     have hszA : w.heap.size ≤ (wr.alloc (.cells #[.int .u64 (z : Int)] 52)).heap.size := HWA.out.size
     have HGE : Hid (∀ q,(Value.slice va R.length vc).ownBlock = some q → w.heap.size ≤ q) := q3Y HV.out
     clear HV HB
     go_wp2_with (at_builtin; refine q4u rfl _ _ rfl w.heap.size _ R.length (iU R) rfl HOA.out wr.heap.size (z : Int) rfl HCA.out (by omega) hszA ?_)
     intro v7 w7 hown7 hgr7
     have HO7 : Hid (w7.ownsRow w.heap.size 52 1 v7 (R.length + 1) ((iU R ++ [(z : Int)]).map (Value.int .u64))) := by show World.ownsRow _ _ _ _ _ _ _; simpa using hown7
     have HW7 : Hid (Below w.heap.size w w7) := HWA.out.grown hgr7 hszA (fun q e => HGE.out q e)
     clear hown7 hgr7 HOA HCA HWA hszA HGE
     go_wp2
     go_roundw
     case rel =>
      refine ⟨j + 1,by omega,by go_num,?_,HW7⟩
      show World.ownsRow _ _ _ _ _ _ _
      rw [HRE.out,List.length_append,q7j]
      exact HO7.out
     case measure => simp [intOf]; omega
    ·obtain rfl : j = m := by omega
     clear HWp HOp HMp HCB hidB
     go_wp2
     go_roundw
     case rel =>
      refine ⟨p + 1,by omega,by go_num,?_,HB⟩
      show World.ownsRow _ _ _ _ _ _ _
      rw [HNp.out]
      exact HV.out
     case measure => simp [intOf]; omega
  ·obtain rfl : p = n := by omega
   have HV2 : Hid _ := HV.out
   rw [HLT.out] at HV2
   obtain ⟨q,C,rfl,hle⟩ := HL.out wr _ HV2.out
   clear HV HV2 HN HM HW HCA HCB HO HL HLT hidA hidB
   generalize leastL (uniL l k) = r at *
   generalize (uniL l k).length = N at *
   go_wp2_with fail
   refine hle.mono ?_
   rintro e w2 ⟨q2,C2,rfl,hU2,hb2,hf2⟩
   have HU : Hid _ := hU2
   have HB2 : Hid (Below w.heap.size w w2) := qf HB.out hb2
   have HFS : Hid (∀ k,k < r.length → w.heap.size ≤ (adOf q2 k).block) := fun k hk => Nat.le_trans HB.out.size (hf2 k hk)
   clear hU2 hb2 hle hf2
   go_wp2
   go_ret2
   exact ⟨q2,C2,rfl,HU.out,HB2.out,HFS.out⟩
theorem qar (a : Option Addr) (n c : Nat) (b : Option Addr) (m d : Nat) (w : World) (hn1 : n ≤ 2000) (hm1 : m ≤ 2000) (hn : 1024 < n * m) :
  Calls Tryz.prog 112 #[.slice a n c,.slice b m d] w (LE 9 [] w) := by
 have hmany := q4o n m w (by omega) (by omega)
 rw [decide_eq_true hn] at hmany
 clear hn
 go_enter Tryz.func112,Tryz.ntmps112
 go_wp2_with fail
 refine hmany.mono ?_
 rintro e w0 ⟨rfl,hw0⟩
 obtain rfl : w = w0 := hw0.symm
 clear hmany
 go_wp2
 go_ret2
 exact ⟨none,0,rfl,q59,Below.refl _ _⟩
def Tab64 (w : World) : Prop := ∀ j,j < 64 → w.cell? ⟨0,j,none⟩ = some (.int .u8 ((Lib.deBruijn64tab.getD j 0 : Nat) : Int))
theorem Tab64.up {w w' : World} (h : Tab64 w) (hb : Below w.heap.size w w') : Tab64 w' := fun j hj => qL (h j hj) hb
theorem qa3 (x k idx : Nat) (w : World) (hx0 : ((x : Int) == 0) = false)
  (key : IntKind.u64.wrap (bits BinOp.and IntKind.u64 (x : Int) (IntKind.u64.wrap (-(x : Int))) * 285870213051353865) / 288230376151711744 = (idx : Int))
  (hi : idx < 64) (hk : k < 64) (hcell : w.cell? ⟨0,idx,none⟩ = some (.int .u8 (k : Int))) :
  Calls Tryz.prog 114 #[.int .u64 (x : Int)] w fun e w' => e = .returned (.int .i64 (k : Int)) ∧ w' = w := by
 go_enter Tryz.func114,Tryz.ntmps114
 go_wp2_with (simp only [key])
 go_ret
 exact ⟨rfl,rfl⟩
theorem qe6 (x a : Nat) (hx : x < 18446744073709551616) (hx0 : x ≠ 0) (hlow : x &&& (18446744073709551616 - x) = a) :
  IntKind.u64.wrap (bits BinOp.and IntKind.u64 (x : Int) (IntKind.u64.wrap (-(x : Int))) * 285870213051353865) / 288230376151711744 = ((a * 285870213051353865 % 18446744073709551616 / 288230376151711744 : Nat) : Int) := by
 have e1 : IntKind.u64.wrap (-(x : Int)) = ((18446744073709551616 - x : Nat) : Int) := by rw [IntKind.wrap_u64]; omega
 rw [e1,u64_and_nat x _ hx (by omega),hlow,IntKind.wrap_u64]
 omega
theorem qai (x : Nat) (hx : x < 2 ^ 64) (hx0 : x ≠ 0) (w : World) (hT : Tab64 w) :
  Calls Tryz.prog 114 #[.int .u64 (x : Int)] w fun e w' => e = .returned (.int .i64 ((Lib.ctz 64 x : Nat) : Int)) ∧ w' = w := by
 obtain ⟨hlow,hk⟩ := Lib.lowest_bit 64 x hx0 hx
 obtain ⟨hi,htab⟩ := Lib.deBruijn64_at _ hk
 have hcell := hT _ hi
 rw [htab] at hcell
 exact qa3 x _ _ w (by simp; omega) (qe6 x _ hx hx0 hlow) hi hk hcell
theorem q9V : (Tryz.prog.info? 3).map (fun i => (i.zero,i.size,i.bytes)) = some (some (.int .i64 0),1,8) := by kernel_rfl
theorem q9Y : (Tryz.prog.info? 3).map (·.size) = some 1 := by kernel_rfl
theorem q89 {w : World} {ops : Array Oper} {rest : List Oper} {o : Oper} {a : Act} {Q : Exit → Act → World → Prop} (hgd : o.guard = none) (s x : Operand)
  (ho : o.op = .call { callee := .builtin .append,args := #[s,x],argTypes := #[80,80] }) (base : Nat)
  (v : Value) (n : Nat) (zs : List Int) (hs : a.eval s = v) (hown : w.ownsRow base 3 1 v n (zs.map (Value.int .i64))) (g' : Nat) (z : Int) (hx : a.eval x = .slice (some ⟨g',0,none⟩) 1 1) (hc : w.cell? ⟨g',0,none⟩ = some (.int .i64 z))
  (hn : n + 1 ≤ 2000000) (hbase : base ≤ w.heap.size)
  (h : ∀ v' w',w'.ownsRow base 3 1 v' (n + 1) ((zs ++ [z]).map (Value.int .i64)) → w.grownBy w' v.ownBlock → wpList Tryz.prog ops Q rest (a.put o.dst v') w') : wpList Tryz.prog ops Q (o :: rest) a w := by
 obtain ⟨i,hi,hz0,hz1,hz2⟩ := info_parts q9V
 refine wpList_append_own w hgd s x 80 ho base 3 i _ 1 8 Tryz.underlying80 hi hz0 hz1 hz2 rfl (by decide) v n _ hs hown ⟨g',0,none⟩ 1 1 [.int .i64 z] hx rfl ?_ (fun u hu => by simp at hu; subst hu; rfl) (by unfold maxLen; omega) (by omega) hbase ?_
 ·intro j u hj
  match j with
  | 0 => simp at hj; rw [← hj,qn]; exact hc
  | j + 1 => simp at hj
 ·intro v' w' h1 h2 _
  exact h v' w' (by rw [List.map_append]; exact h1) h2
abbrev ISl (w : World) (a : Option Addr) (len cap : Nat) (l : List Nat) : Prop := IntSl Tryz.prog 80 .i64 w a len cap (iU l)
theorem qdh {w : World} {base n : Nat} {v : Value} {l : List Nat} (h : w.ownsRow base 3 1 v n ((iU l).map (Value.int .i64))) : ∃ a cap,v = .slice a n cap ∧ ISl w a n cap l := by
 obtain ⟨hl,h⟩ := h
 simp at hl
 rcases h with ⟨rfl,rfl⟩ | ⟨g,cap,cur,rfl,hg,hcell,hnc,hcm,hsz,htk⟩
 ·have : l = [] := List.eq_nil_of_length_eq_zero hl
  subst this
  exact ⟨none,0,rfl,⟨rfl,Nat.le_refl _,Nat.zero_le _,fun m k w hk hm => absurd hk (by omega),fun k hk => absurd hk (by omega),fun k hk => absurd hk (by omega),fun _ => rfl⟩⟩
 ·have had : ∀ k,adOf (some ⟨g,0,none⟩) k = ⟨g,k,none⟩ := fun k => by simp [adOf,qn]
  have hlt : g < w.heap.size := (Array.getElem?_eq_some_iff.1 hcell).1
  refine ⟨some ⟨g,0,none⟩,cap,rfl,⟨by simpa using hl,hnc,hcm,fun m k w hk hm => q1I Tryz.underlying80 q9Y (by simp) k w hk,fun k hk => ?_,fun k hk => by rw [had]; exact hlt,by simp⟩⟩
  rw [had]
  have hk2 : (cur.toList.take (n * 1))[k]? = some (.int .i64 ((iU l).getD k 0)) := by
   rw [htk]; simp [List.getD_eq_getElem?_getD,List.getElem?_eq_getElem (show k < l.length by omega)]
  rw [List.getElem?_take,if_pos (by omega)] at hk2
  simp [World.cell?,hcell]
  simpa using hk2
theorem q6S (a : Option Addr) (n c : Nat) (l : List Nat) (b : Option Addr) (m d : Nat) (k : List Nat) (w : World) (hA : USl w a n c l) (hB : USl w b m d k) :
  Calls Tryz.prog 20 #[.slice a n c,.slice b m d] w (BR (decide (l = k)) w) := by
 have he := q6f a n c _ b m d _ w hA hB
 rw [qc4] at he
 clear hA hB
 generalize decide (l = k) = r at *
 go_enter Tryz.func20,Tryz.ntmps20
 go_wp2_with fail
 refine he.mono ?_
 rintro e w1 ⟨rfl,hw⟩
 have HB : Hid (Below w.heap.size w w1) := q8v hw
 clear he hw
 go_wp2
 go_ret
 exact ⟨rfl,HB.out⟩
theorem q1W (w : World) : Calls Tryz.prog 77 #[] w (LRN [0] w) := by
 have HU : Hid _ := q1m [0] w (by decide)
 have HB : Hid _ := qe w (.cells ((iU [0]).map (Value.int .u64)).toArray 52)
 go_enter Tryz.func77,Tryz.ntmps77
 go_wp2
 go_ret
 exact ⟨_,_,rfl,HU.out,HB.out,fun k _ => by simp [adOf,qn]⟩
abbrev PrgP := World → (Nat → Prop) → Nat → List Nat → Mt → Prop
def pgV (p : Nat) : Value := .pointer (some ⟨p,0,none⟩)
structure US (w : World) (F : Nat → Prop) (a : Option Addr) (n c : Nat) (l : List Nat) : Prop where
 sl : USl w a n c l
 nf : ∀ k,k < n → ¬ F (adOf a k).block
structure ProgC (Prg : PrgP) : Prop where
 lt : ∀ {w F p l0 M},Prg w F p l0 M → ∀ k,F k → k < w.heap.size
 up : ∀ {w w' F p l0 M},Prg w F p l0 M → Below w.heap.size w w' → Prg w' F p l0 M
 new : ∀ (a : Option Addr) (len cap : Nat) (ts : List Tk) (w : World),TkSl w a len cap ts → Tab64 w → Calls Tryz.prog 13 #[.slice a len cap] w fun e w' => Below w.heap.size w w' ∧
  ((chkE ts ≠ 0 ∧ e = .returned (.tuple #[.pointer none,.int .i64 (chkE ts : Int)])) ∨
   ∃ T,KT T ∧ ts = T.flat ∧ chkE ts = 0 ∧ ((needM T [] = none ∧ e = .returned (.tuple #[.pointer none,.int .i64 9])) ∨
    ∃ l0 M p F,needM T [] = some (l0,M) ∧ e = .returned (.tuple #[pgV p,.int .i64 0]) ∧ Prg w' F p l0 M ∧ ∀ k,F k → w.heap.size ≤ k))
 start : ∀ {w F p l0 M},Prg w F p l0 M → Calls Tryz.prog 14 #[pgV p] w fun e w' => ∃ a c F',e = .returned (.slice a l0.length c) ∧ US w' F' a l0.length c l0 ∧ Prg w' F' p l0 M ∧ Fr w w' F F'
 step : ∀ {w F p l0 M} (a : Option Addr) (n c : Nat) (l : List Nat) (x : Nat),Prg w F p l0 M → Tab64 w → US w F a n c l → Sm l → n ≤ 1024 → BdL l M.length → x < 256 →
  Calls Tryz.prog 15 #[pgV p,.slice a n c,.int .u8 (x : Int)] w fun e w' => ∃ F',Fr w w' F F' ∧
   ((∃ q d,stepM fuelN x l [] M = none ∧ e = .returned (.tuple #[.slice q 0 d,.int .i64 9]) ∧ US w' F' q 0 d [] ∧ Prg w' F' p l0 M) ∨
    ∃ L M' q d,stepM fuelN x l [] M = some (L,M') ∧ e = .returned (.tuple #[.slice q L.length d,.int .i64 0]) ∧ US w' F' q L.length d L ∧ Prg w' F' p l0 M')
 arg : ∀ {w F p l0 M} (a : Option Addr) (n c : Nat) (l : List Nat) (x : Nat),Prg w F p l0 M → US w F a n c l → Sm l → n ≤ 1024 → ¬ BdL l M.length → x < 256 →
  Calls Tryz.prog 15 #[pgV p,.slice a n c,.int .u8 (x : Int)] w fun e w' => ∃ F' q d,e = .returned (.tuple #[.slice q 0 d,.int .i64 2]) ∧ US w' F' q 0 d [] ∧ Prg w' F' p l0 M ∧ Fr w w' F F'
 fin : ∀ {w F p l0 M} (a : Option Addr) (n c : Nat) (l : List Nat),Prg w F p l0 M → Tab64 w → US w F a n c l → Sm l → n ≤ 1024 →
  Calls Tryz.prog 18 #[pgV p,.slice a n c] w fun e w' => ∃ b F',e = .returned (.bool b) ∧ (b = true ↔ FinP M l) ∧ Prg w' F' p l0 M ∧ Fr w w' F F'
 ends : ∀ (a : Option Addr) (len cap : Nat) (ts : List Tk) (w : World),TkSl w a len cap ts → Calls Tryz.prog 17 #[.slice a len cap] w fun e w' => Below w.heap.size w w' ∧
  ((chkE ts ≠ 0 ∧ e = .returned (.tuple #[.bool false,.int .i64 (chkE ts : Int)])) ∨ ∃ T b,KT T ∧ ts = T.flat ∧ chkE ts = 0 ∧ e = .returned (.tuple #[.bool b,.int .i64 0]) ∧ (b = true ↔ (semTr [] T).1 0))
structure PS (Prg : PrgP) (w0 wr : World) (F : Nat → Prop) (p : Nat) (l0 : List Nat) (M : Mt) : Prop where
 prg : Prg wr F p l0 M
 ge : ∀ k,F k → w0.heap.size ≤ k
 bel : Below w0.heap.size w0 wr
theorem PS.fr {Prg : PrgP} {w0 wr w' : World} {F F' : Nat → Prop} {p : Nat} {l0 : List Nat} {M M' : Mt} (h : PS Prg w0 wr F p l0 M) (hP : Prg w' F' p l0 M') (fr : Fr wr w' F F') : PS Prg w0 w' F' p l0 M' :=
 ⟨hP,fr.ge h.ge h.bel.size,h.bel.trans (fr.below h.ge h.bel.size)⟩
theorem PS.up {Prg : PrgP} (C : ProgC Prg) {w0 wr w' : World} {F : Nat → Prop} {p : Nat} {l0 : List Nat} {M : Mt} (h : PS Prg w0 wr F p l0 M) (hb : Below wr.heap.size wr w') : PS Prg w0 w' F p l0 M := ⟨C.up h.prg hb,h.ge,qf h.bel hb⟩
theorem US.fr {w w' : World} {F F' : Nat → Prop} {a : Option Addr} {n c : Nat} {l : List Nat} (h : US w F a n c l) (fr : Fr w w' F F') : US w' F' a n c l := ⟨fr.intSl h.sl h.nf,fun k hk => fr.out (h.nf k hk) (h.sl.blk k hk)⟩
theorem US.up {w w' : World} {F : Nat → Prop} {a : Option Addr} {n c : Nat} {l : List Nat} (h : US w F a n c l) (hb : Below w.heap.size w w') : US w' F a n c l := ⟨h.sl.up hb,h.nf⟩
theorem US.lit {Prg : PrgP} (C : ProgC Prg) {w0 wr : World} {F : Nat → Prop} {p : Nat} {l0 : List Nat} {M : Mt} (h : PS Prg w0 wr F p l0 M) (l : List Nat) (hl : l.length ≤ 2000) : US (wr.alloc (.cells ((iU l).map (Value.int .u64)).toArray 52)) F (some ⟨wr.heap.size,0,none⟩) l.length l.length l := by
 refine ⟨q1m l wr hl,fun k _ hF => ?_⟩
 have := C.lt h.prg _ hF
 simp [adOf,qn] at this
theorem q6H (w : World) (F : Nat → Prop) : US w F none 0 0 [] := ⟨q59,fun k hk => absurd hk (by omega)⟩
def thrownP : List PanicEntry := [{ v := .iface 128 (.int .i64 9),recovered := false }]
def TwoR (r : Option (List Nat)) (w : World) (e : Ending) (w' : World) : Prop := Below w.heap.size w w' ∧ ((∃ L q d,r = some L ∧ e = .returned (.slice q L.length d) ∧ USl w' q L.length d L ∧ ∀ k,k < L.length → w.heap.size ≤ (adOf q k).block) ∨ (r = none ∧ e = .panicked thrownP))
theorem q4A (a : Option Addr) (n c : Nat) (w : World) : Calls Tryz.prog 111 #[.slice a n c,.int .i64 0] w fun e w' => e = .returned (.slice a n c) ∧ w' = w := by
 go_enter Tryz.func111,Tryz.ntmps111
 go_wp2
 go_ret
 exact ⟨rfl,rfl⟩
theorem q4r (a : Option Addr) (n c : Nat) (w : World) : Calls Tryz.prog 111 #[.slice a n c,.int .i64 9] w fun e w' => e = .panicked thrownP ∧ w' = w := by
 go_enter Tryz.func111,Tryz.ntmps111
 go_wp2
 exact ⟨rfl,rfl,rfl⟩
theorem q3N (a : Option Addr) (n c : Nat) (l : List Nat) (b : Option Addr) (m d : Nat) (k : List Nat) (w : World) (hA : USl w a n c l) (hB : USl w b m d k) (sL : Sm l) (sK : Sm k) (hn : n ≤ 2000) (hm : m ≤ 2000) :
  Calls Tryz.prog 78 #[.slice a n c,.slice b m d] w (TwoR (andM l k) w) := by
 have hl := hA.len
 have hk := hB.len
 by_cases h : n * m ≤ 1024
 ·have hs : andM l k = some (leastL (uniL l k)) := by unfold andM; rw [if_pos (by rw [← hl,← hk]; exact h)]
  have jj := q9N a n c l b m d k w hA hB sL sK h hn hm
  rw [hs]
  clear hs hA hB hl hk h
  generalize leastL (uniL l k) = r at *
  go_enter Tryz.func78,Tryz.ntmps78
  go_wp2_with fail
  refine jj.mono ?_
  rintro e w1 ⟨q,C,rfl,hU,hb,hf⟩
  have HU : Hid _ := hU
  have HB : Hid _ := hb
  have HFS : Hid _ := hf
  clear jj hU hb hf
  go_wp2_with fail
  refine (q4A _ _ _ _).mono ?_
  rintro e w2 ⟨rfl,rfl⟩
  go_wp2
  go_ret
  exact ⟨HB.out,Or.inl ⟨r,q,C,rfl,rfl,HU.out,HFS.out⟩⟩
 ·have hs : andM l k = none := by unfold andM; rw [if_neg (by rw [← hl,← hk]; exact h)]
  have jj := qar a n c b m d w hn hm (by omega)
  rw [hs]
  clear hs hA hB hl hk h
  go_enter Tryz.func78,Tryz.ntmps78
  go_wp2_with fail
  refine jj.mono ?_
  rintro e w1 ⟨q,C,rfl,hU,hb⟩
  have HB : Hid _ := hb
  clear jj hU hb
  go_wp2_with fail
  refine (q4r _ _ _ _).mono ?_
  rintro e w2 ⟨rfl,rfl⟩
  exact ⟨rfl,HB.out,Or.inr ⟨rfl,rfl⟩⟩
theorem q3c (a : Option Addr) (n c : Nat) (l : List Nat) (b : Option Addr) (m d : Nat) (k : List Nat) (w : World) (hA : USl w a n c l) (hB : USl w b m d k) (sL : Sm l) (sK : Sm k) (hn : n ≤ 2000) (hm : m ≤ 2000) :
  Calls Tryz.prog 79 #[.slice a n c,.slice b m d] w (TwoR (orM l k) w) := by
 have hl := hA.len
 have hk := hB.len
 by_cases h : n + m ≤ 1024
 ·have hs : orM l k = some (leastL (l ++ k)) := by unfold orM; rw [if_pos (by rw [← hl,← hk]; exact h)]
  have jj := qap a n c l b m d k w hA hB sL sK h
  rw [hs]
  clear hs hA hB hl hk h
  generalize leastL (l ++ k) = r at *
  go_enter Tryz.func79,Tryz.ntmps79
  go_wp2_with fail
  refine jj.mono ?_
  rintro e w1 ⟨q,C,rfl,hU,hb,hf⟩
  have HU : Hid _ := hU
  have HB : Hid _ := hb
  have HFS : Hid _ := hf
  clear jj hU hb hf
  go_wp2_with fail
  refine (q4A _ _ _ _).mono ?_
  rintro e w2 ⟨rfl,rfl⟩
  go_wp2
  go_ret
  exact ⟨HB.out,Or.inl ⟨r,q,C,rfl,rfl,HU.out,HFS.out⟩⟩
 ·have hs : orM l k = none := by unfold orM; rw [if_neg (by rw [← hl,← hk]; exact h)]
  have jj := qb9 a n c b m d w (by omega) (by omega) (by omega)
  rw [hs]
  clear hs hA hB hl hk h
  go_enter Tryz.func79,Tryz.ntmps79
  go_wp2_with fail
  refine jj.mono ?_
  rintro e w1 ⟨q,C,rfl,hU,hb⟩
  have HB : Hid _ := hb
  clear jj hU hb
  go_wp2_with fail
  refine (q4r _ _ _ _).mono ?_
  rintro e w2 ⟨rfl,rfl⟩
  exact ⟨rfl,HB.out,Or.inr ⟨rfl,rfl⟩⟩
def NewL (l : List Nat) (w : World) (e : Ending) (w' : World) : Prop := ∃ q C,e = .returned (.slice q l.length C) ∧ USl w' q l.length C l ∧ Below w.heap.size w w' ∧ ∀ k,k < l.length → w.heap.size ≤ (adOf q k).block
theorem q3a (w w' : World) (h : Below w.heap.size w w') : NewL [] w (.returned (.slice none 0 0)) w' := ⟨none,0,rfl,q59,h,fun k hk => absurd hk (by simp)⟩
theorem q3Z (b : Bool) (w : World) : Calls Tryz.prog 131 #[.bool b] w (NewL (yesM b) w) := by
 cases b with
 | true =>
  have jj := q1W w
  go_enter Tryz.func131,Tryz.ntmps131
  go_wp2_with fail
  refine jj.mono ?_
  rintro e w1 ⟨q,C,rfl,hU,hb,hf⟩
  have HU : Hid (NewL (yesM true) w (.returned (.slice q [0].length C)) w1) := ⟨q,C,rfl,hU,hb,hf⟩
  clear jj hU hb hf
  go_wp2
  go_ret
  exact HU.out
 | false =>
  go_enter Tryz.func131,Tryz.ntmps131
  go_wp2
  go_ret
  exact q3a w w (Below.refl _ _)
theorem qcm : ∀ x : Fin 256,∀ q : Fin 8,(bits BinOp.and IntKind.u8 ((x.val : Nat) : Int) ((2 ^ q.val : Nat) : Int) != 0) = x.val.testBit q.val := by decide +kernel
def rdV (p x bn bl : Nat) : Value := .agg #[.pointer (some ⟨p,0,none⟩),.int .u8 (x : Int),.map (some bn),.map (some bl)]
def rdO (p x bn bl : Nat) : Obj := .cells #[.pointer (some ⟨p,0,none⟩),.int .u8 (x : Int),.map (some bn),.map (some bl)] 88 (0,0)
theorem q4x (p x bn bl q : Nat) (hx : x < 256) (hq : q ≤ 7) (w : World) : Calls Tryz.prog 132 #[rdV p x bn bl,.int .u8 (q : Int)] w fun e w' => e = .returned (.bool (x.testBit q)) ∧ Below w.heap.size w w' := by
 have HB := qe w (rdO p x bn bl)
 unfold rdV
 unfold rdO at HB
 have : q = 0 ∨ q = 1 ∨ q = 2 ∨ q = 3 ∨ q = 4 ∨ q = 5 ∨ q = 6 ∨ q = 7 := by omega
 have hh := qcm ⟨x,hx⟩ ⟨q,by omega⟩
 dsimp only at hh
 rcases this with rfl | rfl | rfl | rfl | rfl | rfl | rfl | rfl <;>
 ·have HH : Hid _ := hh
  clear hh
  go_enter Tryz.func132,Tryz.ntmps132
  go_wp2
  go_ret
  exact ⟨congrArg Ending.returned (congrArg Value.bool HH.out),HB⟩
def txOf (f : List Tk) : ByteArray := ⟨(f.map fun k => UInt8.ofNat (k.1 * 8 + k.2)).toArray⟩
def SmT (f : List Tk) : Prop := ∀ k ∈ f,k.1 ≤ 23 ∧ k.2 ≤ 7
theorem qd8 {a b : Tk} (ha : a.1 ≤ 23 ∧ a.2 ≤ 7) (hb : b.1 ≤ 23 ∧ b.2 ≤ 7) (h : UInt8.ofNat (a.1 * 8 + a.2) = UInt8.ofNat (b.1 * 8 + b.2)) : a = b := by
 have := congrArg UInt8.toNat h
 simp at this
 obtain ⟨a1,a2⟩ := a
 obtain ⟨b1,b2⟩ := b
 simp only [Prod.mk.injEq]
 dsimp only at *
 omega
theorem qcT : ∀ {f g : List Tk},SmT f → SmT g → txOf f = txOf g → f = g := by
 intro f g hf hg h
 have h1 : (f.map fun k => UInt8.ofNat (k.1 * 8 + k.2)) = g.map fun k => UInt8.ofNat (k.1 * 8 + k.2) := by
  have := congrArg (fun x : ByteArray => x.data.toList) h
  simpa [txOf] using this
 clear h
 induction f generalizing g with
 | nil => cases g with
  | nil => rfl
  | cons y g => simp at h1
 | cons x f ih => cases g with
  | nil => simp at h1
  | cons y g =>
   rw [List.map_cons,List.map_cons] at h1
   injection h1 with e1 e2
   rw [qd8 (hf x (by simp)) (hg y (by simp)) e1,ih (fun k hk => hf k (by simp [hk])) (fun k hk => hg k (by simp [hk])) e2]
def nmF (M : Mt) (s : ByteArray) : Option Nat := M.findIdx? fun f => decide (txOf f = s)
theorem q53 {p q : List Tk → Bool} : ∀ {M : Mt},(∀ f ∈ M,p f = q f) → M.findIdx? p = M.findIdx? q
 | [],_ => rfl
 | f :: M,h => by
  rw [List.findIdx?_cons,List.findIdx?_cons,h f (by simp),q53 fun g hg => h g (by simp [hg])]
theorem q9e {M : Mt} (hM : ∀ f ∈ M,SmT f) {g : List Tk} (hg : SmT g) : nmF M (txOf g) = M.findIdx? (· == g) := by
 refine q53 fun f hf => ?_
 by_cases e : f = g
 ·subst e; simp
 ·have : ¬ txOf f = txOf g := fun h => e (qcT (hM f hf) hg h)
  simp [e,this]
theorem qcE {M : Mt} (hM : ∀ f ∈ M,SmT f) {g : List Tk} (hg : SmT g) (hn : M.findIdx? (· == g) = none) (y : ByteArray) : (if y = txOf g then some M.length else nmF M y) = nmF (M ++ [g]) y := by
 by_cases e : y = txOf g
 ·subst e
  rw [if_pos rfl]
  unfold nmF
  rw [List.findIdx?_append,show M.findIdx? (fun f => decide (txOf f = txOf g)) = none from (q9e hM hg).trans hn]
  simp
 ·rw [if_neg e]
  unfold nmF
  rw [List.findIdx?_append]
  have : ¬ txOf g = y := fun h => e h.symm
  simp [this]
theorem PtR.setRest {w : World} {b mp n j : Nat} {T : TypeId} {rest : List Value} {vi vt : Value} {items : List It} {texts : List ByteArray} {f : It → Option Nat} (h : PtR w b T rest vi mp vt items texts n f) (v : Value) :
  PtR (w.setCell ⟨b,3 + j,none⟩ v) b T (rest.set j v) vi mp vt items texts n f := by
 have st : ∀ k,k ≠ b → (w.setCell ⟨b,3 + j,none⟩ v).heap[k]? = w.heap[k]? := fun k hk => Below.heap_setCell _ _ _ _ hk
 refine ⟨h.ty,?_,qy h.ri fun k hk => st k (fun e => h.ib (e ▸ hk)),qy h.rt fun k hk => st k (fun e => h.tb (e ▸ hk)),h.num.far (st mp h.mb)⟩
 rw [heap_setCell_same w b (3 + j) _ _ v h.blk]
 unfold ptA
 congr 2
 rw [show 3 + j = j + 1 + 1 + 1 by omega]
 simp
theorem PtO.setRest {T0 : Tr} {w : World} {G : Nat → Prop} {b j : Nat} {T : TypeId} {rest : List Value} {items : List It} (h : PtO T0 w G b T rest items) (v : Value) :
  PtO T0 (w.setCell ⟨b,3 + j,none⟩ v) G b T (rest.set j v) items := by
 obtain ⟨texts,hp,ht⟩ := h.ex
 obtain ⟨vi,mp,vt,hr,hG⟩ := hp.ex
 exact ⟨h.t0,h.low,h.cov,texts,⟨hp.nd,hp.tl,hp.few,hp.ok,hp.tok,vi,mp,vt,hr.setRest v,hG⟩,ht⟩
theorem PtO.blk {T0 : Tr} {w : World} {G : Nat → Prop} {b : Nat} {T : TypeId} {rest : List Value} {items : List It} (h : PtO T0 w G b T rest items) : ∃ vi mp vt,w.heap[b]? = some (.cells (ptA vi mp vt rest) T (0,0)) ∧ G b := by
 obtain ⟨texts,hp,ht⟩ := h.ex
 obtain ⟨vi,mp,vt,hr,hG⟩ := hp.ex
 exact ⟨vi,mp,vt,hr.blk,(hG b).2 (Or.inl rfl)⟩
def pgRest (p mn : Nat) (vm vs : Value) : List Value := [pgV p,.map (some mn),vm,vs]
def MetOk (items : List It) (met : List Nat) (M : Mt) : Prop := met.length = M.length ∧ ∀ (n i : Nat),met[n]? = some i → ∃ S : Tr,Rep items i S ∧ M[n]? = some S.flat
theorem MetOk.pre {items items' : List It} {met : List Nat} {M : Mt} (h : MetOk items met M) (hp : items <+: items') : MetOk items' met M := ⟨h.1,fun n i hi => by
 obtain ⟨S,h1,h2⟩ := h.2 n i hi
 exact ⟨S,h1.pre hp,h2⟩⟩
structure PgR (T0 : Tr) (w : World) (G : Nat → Prop) (p mn : Nat) (vm vs : Value) (items : List It) (met : List Nat) (M : Mt) : Prop where
 po : PtO T0 w G p 82 (pgRest p mn vm vs) items
 row : w.ownsRow 0 3 1 vm met.length (encM met)
 num : NumS w mn met.length (nmF M)
 met : MetOk items met M
 ng : ¬ G mn
 nv : ∀ k,vm.ownBlock = some k → ¬ G k
def FQ (G : Nat → Prop) (mn : Nat) (vm : Value) (k : Nat) : Prop := G k ∨ k = mn ∨ vm.ownBlock = some k
structure PgO (T0 : Tr) (w : World) (F : Nat → Prop) (p : Nat) (vs : Value) (items : List It) (M : Mt) : Prop where
 few : M.length ≤ 64
 nd : M.Nodup
 of : ∀ f ∈ M,∃ S,KT S ∧ InC T0 S ∧ f = S.flat
 ex : ∃ G mn vm met,PgR T0 w G p mn vm vs items met M ∧ ∀ k,F k ↔ FQ G mn vm k
section
variable {T0 : Tr} {w : World} {G : Nat → Prop} {p mn : Nat} {vm vs : Value} {items : List It} {met : List Nat} {M : Mt}
theorem PgR.vn (h : PgR T0 w G p mn vm vs items met M) : vm.ownBlock ≠ some mn := by
 obtain ⟨es,c,hm⟩ := h.num.isMap
 exact q2q h.row hm fun cs e => by cases e
theorem PgR.lt (h : PgR T0 w G p mn vm vs items met M) : ∀ k,FQ G mn vm k → k < w.heap.size := fun k hk => by
 rcases hk with hk | rfl | hk
 ·exact h.po.lt k hk
 ·exact h.num.lt
 ·exact q1f h.row k hk
theorem PgR.far {w' : World} (h : PgR T0 w G p mn vm vs items met M) (hb : ∀ k,FQ G mn vm k → w'.heap[k]? = w.heap[k]?) : PgR T0 w' G p mn vm vs items met M :=
 ⟨h.po.far fun k hk => hb k (Or.inl hk),qy h.row fun k hk => hb k (Or.inr (Or.inr hk)),h.num.far (hb mn (Or.inr (Or.inl rfl))),h.met,h.ng,h.nv⟩
theorem PgR.c4 (h : PgR T0 w G p mn vm vs items met M) : w.cell? ⟨p,4,none⟩ = some (.map (some mn)) := by
 obtain ⟨vi,mp,vt,hb,_⟩ := h.po.blk
 exact qb hb 4
theorem PgR.c3 (h : PgR T0 w G p mn vm vs items met M) : w.cell? ⟨p,3,none⟩ = some (.pointer (some ⟨p,0,none⟩)) := by
 obtain ⟨vi,mp,vt,hb,_⟩ := h.po.blk
 exact qb hb 3
theorem PgR.c5 (h : PgR T0 w G p mn vm vs items met M) : w.cell? ⟨p,5,none⟩ = some vm := by
 obtain ⟨vi,mp,vt,hb,_⟩ := h.po.blk
 exact qb hb 5
theorem PgR.c6 (h : PgR T0 w G p mn vm vs items met M) : w.cell? ⟨p,6,none⟩ = some vs := by
 obtain ⟨vi,mp,vt,hb,_⟩ := h.po.blk
 exact qb hb 6
theorem PgR.gp (h : PgR T0 w G p mn vm vs items met M) : G p := by
 obtain ⟨vi,mp,vt,hb,hg⟩ := h.po.blk
 exact hg
theorem PgR.fz (h : PgR T0 w G p mn vm vs items met M) (j : Nat) : w.frozen? ⟨p,j,none⟩ = false := by
 obtain ⟨vi,mp,vt,hb,_⟩ := h.po.blk
 exact frozen_of_row w p j _ _ hb
theorem PgR.part {w' : World} {G' : Nat → Prop} {items' : List It} (h : PgR T0 w G p mn vm vs items met M) (hp : PtO T0 w' G' p 82 (pgRest p mn vm vs) items') (hi : items <+: items') (fr : Fr w w' G G') : PgR T0 w' G' p mn vm vs items' met M ∧ Fr w w' (FQ G mn vm) (FQ G' mn vm) := by
 refine ⟨⟨hp,qy h.row fun k hk => fr.keep k (q1f h.row k hk) (h.nv k hk),h.num.far (fr.keep mn h.num.lt h.ng),h.met.pre hi,fr.out h.ng h.num.lt,fun k hk => fr.out (h.nv k hk) (q1f h.row k hk)⟩,fr.os,fr.tape,fr.output,fr.size,fun k hk hF => fr.keep k hk fun e => hF (Or.inl e),fun k hk => ?_⟩
 rcases hk with hk | hk | hk
 ·exact (fr.foot k hk).imp Or.inl id
 ·exact Or.inl (Or.inr (Or.inl hk))
 ·exact Or.inl (Or.inr (Or.inr hk))
theorem PgR.put {w' : World} (h : PgR T0 w G p mn vm vs items met M) (hg : w.grownBy w' (some mn)) : PtO T0 w' G p 82 (pgRest p mn vm vs) items ∧ w'.ownsRow 0 3 1 vm met.length (encM met) ∧ Fr w w' (FQ G mn vm) (FQ G mn vm) := by
 have st : ∀ k,k < w.heap.size → k ≠ mn → w'.heap[k]? = w.heap[k]? := fun k hk hne => hg.block k hk (fun e => hne (by injection e))
 exact ⟨h.po.far fun k hk => st k (h.po.lt k hk) (fun e => h.ng (e ▸ hk)),qy h.row fun k hk => st k (q1f h.row k hk) (fun e => h.vn (e ▸ hk)),hg.os,hg.tape,hg.output,hg.size,fun k hk hF => st k hk fun e => hF (Or.inr (Or.inl e)),fun _ hk => Or.inl hk⟩
end
section
variable {T0 : Tr} {w : World} {F : Nat → Prop} {p : Nat} {vs : Value} {items : List It} {M : Mt}
theorem PgO.lt (h : PgO T0 w F p vs items M) : ∀ k,F k → k < w.heap.size := fun k hk => by
 obtain ⟨G,mn,vm,met,hr,hF⟩ := h.ex
 exact hr.lt k ((hF k).1 hk)
theorem PgO.far {w' : World} (h : PgO T0 w F p vs items M) (hb : ∀ k,F k → w'.heap[k]? = w.heap[k]?) : PgO T0 w' F p vs items M := by
 obtain ⟨G,mn,vm,met,hr,hF⟩ := h.ex
 exact ⟨h.few,h.nd,h.of,G,mn,vm,met,hr.far fun k hk => hb k ((hF k).2 hk),hF⟩
theorem PgO.up {w' : World} (h : PgO T0 w F p vs items M) (hb : Below w.heap.size w w') : PgO T0 w' F p vs items M := h.far fun k hk => hb.block k (h.lt k hk)
theorem PgO.small (h : PgO T0 w F p vs items M) (t0 : KT T0) : ∀ f ∈ M,SmT f := fun f hf => by
 obtain ⟨S,_,h2,rfl⟩ := h.of f hf
 exact q6j t0 h2
theorem PgO.t0 (h : PgO T0 w F p vs items M) : T0k T0 := by
 obtain ⟨G,mn,vm,met,hr,hF⟩ := h.ex
 exact hr.po.t0
theorem PgO.good (h : PgO T0 w F p vs items M) : GoodM M := ⟨fun f hf => by
 obtain ⟨S,h1,_,rfl⟩ := h.of f hf
 exact ⟨S,h1,rfl⟩,h.few⟩
end
def MetR (T0 : Tr) (w : World) (F : Nat → Prop) (p : Nat) (vs : Value) (items : List It) (M : Mt) (S : Tr) (e : Ending) (w' : World) : Prop :=
 ∃ F',Fr w w' F F' ∧ ((∃ (n : Nat) (M' : Mt),meetM S.flat M = some ([2 ^ n],M') ∧ n < 64 ∧ e = .returned (.int .i64 (n : Int)) ∧ PgO T0 w' F' p vs items M') ∨ (meetM S.flat M = none ∧ e = .panicked thrownP ∧ PgO T0 w' F' p vs items M))
theorem qe9 {items : List It} {M : Mt} {met : List Nat} (h : MetOk items met M) {n : Nat} {g : List Tk} (hn : M.findIdx? (· == g) = some n) : n < met.length := by
 have := (List.findIdx?_eq_some_iff_getElem.1 hn).1
 rw [h.1]; exact this
theorem PgR.met1 {T0 : Tr} {w w5 : World} {G : Nat → Prop} {p mn : Nat} {vm vs v5 : Value} {items : List It} {met : List Nat} {M : Mt} {S : Tr} {i : Nat} (t0 : KT T0) (hM : ∀ f ∈ M,SmT f) (hS : InC T0 S) (hi : Rep items i S) (hno : M.findIdx? (· == S.flat) = none)
  (hpo : PtO T0 w G p 82 (pgRest p mn vm vs) items) (hrow : w.ownsRow 0 3 1 vm met.length (encM met)) (hnum : NumS w mn (met.length + 1) (fun y => if y = txB S then some met.length else nmF M y)) (hmet : MetOk items met M) (hng : ¬ G mn) (hnv : ∀ k,vm.ownBlock = some k → ¬ G k)
  (hg : (w.alloc (.cells #[.int .i64 (i : Int)] 3)).grownBy w5 vm.ownBlock) (ho : w5.ownsRow 0 3 1 v5 (met.length + 1) (encM met ++ [.int .i64 (i : Int)])) (hl : v5.ownBlock = vm.ownBlock ∨ v5.ownBlock = some (w.heap.size + 1)) :
  w5.cell? ⟨p,5,none⟩ = some vm ∧ w5.frozen? ⟨p,5,none⟩ = false ∧ PgR T0 (w5.setCell ⟨p,5,none⟩ v5) G p mn v5 vs items (met ++ [i]) (M ++ [S.flat]) ∧ Fr w (w5.setCell ⟨p,5,none⟩ v5) (FQ G mn vm) (FQ G mn v5) := by
 have hb1 := qe w (.cells #[.int .i64 (i : Int)] 3)
 have hz : (w.alloc (.cells #[.int .i64 (i : Int)] 3)).heap.size = w.heap.size + 1 := by simp
 have hs := hg.size
 have st : ∀ k,k < w.heap.size → vm.ownBlock ≠ some k → w5.heap[k]? = w.heap[k]? := fun k hk hne => (hg.block k (by omega) (fun e => hne e.symm)).trans (hb1.block k hk)
 have hGv : ∀ k,G k → vm.ownBlock ≠ some k := fun k hk e => hnv k e hk
 have hpo5 := hpo.far (w' := w5) fun k hk => st k (hpo.lt k hk) (hGv k hk)
 obtain ⟨es,cl,hmap⟩ := hnum.isMap
 have hvn : vm.ownBlock ≠ some mn := q2q hrow hmap fun cs e => by cases e
 obtain ⟨vi,mp,vt,hb5,hgp⟩ := hpo5.blk
 have hv5 : ∀ k,v5.ownBlock = some k → ¬ G k := fun k hk hG => by
  rcases hl with e | e
  ·rw [e] at hk; exact hnv k hk hG
  ·rw [e] at hk; injection hk with hk; have := hpo.lt k hG; omega
 have s6 : ∀ k,k ≠ p → (w5.setCell ⟨p,5,none⟩ v5).heap[k]? = w5.heap[k]? := fun k hk => Below.heap_setCell _ _ _ _ hk
 refine ⟨qb hb5 5,frozen_of_row w5 p 5 _ _ hb5,⟨hpo5.setRest (j := 2) v5,?_,?_,⟨by simp [hmet.1],fun n j hj => ?_⟩,hng,hv5⟩,hg.os,hg.tape,hg.output,by simp; omega,fun k hk hF => ?_,fun k hk => ?_⟩
 ·rw [List.length_append]
  have : encM (met ++ [i]) = encM met ++ [.int .i64 (i : Int)] := by simp [encM]
  rw [this]
  exact qy ho fun k hk => s6 k (fun e => hv5 k hk (e ▸ hgp))
 ·rw [List.length_append]
  refine ((hnum.far (w' := w5.setCell ⟨p,5,none⟩ v5) ((s6 mn (fun e => hng (e ▸ hgp))).trans (st mn hnum.lt hvn))).alike fun y _ => ?_)
  rw [hmet.1]
  exact qcE hM (q6j t0 hS) hno y
 ·by_cases hlt : n < met.length
  ·rw [List.getElem?_append_left hlt] at hj
   obtain ⟨S',h1,h2⟩ := hmet.2 n j hj
   exact ⟨S',h1,by rw [List.getElem?_append_left (by rw [← hmet.1]; exact hlt)]; exact h2⟩
  ·have hn : n = met.length := by
    have := (List.getElem?_eq_some_iff.1 hj).1
    simp at this
    omega
   subst hn
   simp at hj
   subst hj
   exact ⟨S,hi,by rw [hmet.1]; simp⟩
 ·exact (s6 k fun e => hF (Or.inl (e ▸ hgp))).trans (st k hk fun e => hF (Or.inr (Or.inr e)))
 ·rcases hk with hk | hk | hk
  ·exact Or.inl (Or.inl hk)
  ·exact Or.inl (Or.inr (Or.inl hk))
  ·rcases hl with e | e
   ·rw [e] at hk; exact Or.inl (Or.inr (Or.inr hk))
   ·rw [e] at hk; injection hk with hk; right; omega
theorem q7q {T0 : Tr} {w : World} {F : Nat → Prop} {p : Nat} {vs : Value} {items : List It} {M : Mt} (h : PgO T0 w F p vs items M) (i : Nat) (S : Tr) (hi : Rep items i S) (hS : InC T0 S) (kS : KT S) :
  Calls Tryz.prog 80 #[.pointer (some ⟨p,0,none⟩),.int .i64 (i : Int)] w (MetR T0 w F p vs items M S) := by
 obtain ⟨G,mn,vm,met,hr,hF⟩ := h.ex
 have t0 := h.t0
 have hsm := h.small t0.kt
 have jt := q2N hr.po i S hi hS
 have HT : Hid (∀ w1,TextP T0 w G p 82 (pgRest p mn vm vs) items w1 → PgR T0 w1 G p mn vm vs items met M ∧ Fr w w1 (FQ G mn vm) (FQ G mn vm)) := fun w1 hq => hr.part hq.1 (List.prefix_refl _) hq.2
 have hso : SOk (txB S) := by unfold SOk; rw [q5I]; have := (q3d t0.sz hS).1; omega
 have hlk : nmF M (txB S) = M.findIdx? (· == S.flat) := q9e hsm (q6j t0.kt hS)
 have hfr : ∀ {w' : World} {G' : Nat → Prop} {mn' : Nat} {vm' : Value},Fr w w' (FQ G mn vm) (FQ G' mn' vm') → Fr w w' F (FQ G' mn' vm') := fun fr => fr.alike (fun k hk => (hF k).2 hk) (fun k hk => hk)
 have hml := hr.met.1
 have hfew := h.few
 cases hf : M.findIdx? (· == S.flat) with
 | some n =>
  have hn := qe9 hr.met hf
  have hm : meetM S.flat M = some ([2 ^ n],M) := by unfold meetM; rw [hf]
  have HFIN : Hid (∀ w1,TextP T0 w G p 82 (pgRest p mn vm vs) items w1 → MetR T0 w F p vs items M S (.returned (.int .i64 (n : Int))) w1) := fun w1 hq => by
   obtain ⟨h1,h2⟩ := HT.out w1 hq
   exact ⟨_,hfr h2,Or.inl ⟨n,M,hm,by omega,rfl,h.few,h.nd,h.of,G,mn,vm,met,h1,fun k => Iff.rfl⟩⟩
  have HLK : Hid (∀ w1,PgR T0 w1 G p mn vm vs items met M → (Instr.lookup 79 (.map (some mn)) (.string (txB S)) true).run Tryz.prog w1 = .ok (.tuple #[.int .i64 (n : Int),.bool true]) w1) := fun w1 h1 => by
   have := h1.num.look hso
   rw [hlk,hf] at this
   exact this
  clear h hr hF t0 hsm hi hS kS hso hlk hfr hml hfew hf hn hm
  generalize txB S = s at *
  go_enter Tryz.func80,Tryz.ntmps80
  go_wp2_with fail
  refine jt.mono ?_
  rintro e w1 ⟨rfl,hq⟩
  have hR := (HT.out w1 hq).1
  have c4 := hR.c4
  have hlook := HLK.out w1 hR
  have HQ : Hid _ := HFIN.out w1 hq
  clear jt hq hR HT HFIN HLK
  go_wp2
  go_ret
  exact HQ.out
 | none =>
  by_cases hl : M.length < 64
  ·have hm : meetM S.flat M = some ([2 ^ met.length],M ++ [S.flat]) := by unfold meetM; rw [hf,hml]; dsimp only; rw [if_pos hl]
   have HLK : Hid (∀ w1,PgR T0 w1 G p mn vm vs items met M → (Instr.lookup 79 (.map (some mn)) (.string (txB S)) true).run Tryz.prog w1 = .ok (.tuple #[.int .i64 0,.bool false]) w1 ∧ ∃ w',(Instr.mapUpdate 79 (.map (some mn)) (.string (txB S)) (.int .i64 (met.length : Int))).run Tryz.prog w1 = .ok () w' ∧ NumS w' mn (met.length + 1) (fun y => if y = txB S then some met.length else nmF M y) ∧ w1.grownBy w' (some mn)) := fun w1 h1 => by
    have := h1.num.look hso
    rw [hlk,hf] at this
    exact ⟨this,h1.num.put (by omega) hso (hlk.trans hf) met.length (by omega)⟩
   have HM1 : Hid _ := fun (w : World) (w5 : World) (v5 : Value) a b c d e f => PgR.met1 (w := w) (w5 := w5) (v5 := v5) (p := p) (mn := mn) (vm := vm) (vs := vs) (G := G) (met := met) t0.kt hsm hS hi hf a b c hr.met hr.ng hr.nv d e f
   have HFIN : Hid (∀ w6 v5,PgR T0 w6 G p mn v5 vs items (met ++ [i]) (M ++ [S.flat]) → Fr w w6 (FQ G mn vm) (FQ G mn v5) → MetR T0 w F p vs items M S (.returned (.int .i64 (met.length : Int))) w6) := fun w6 v5 h1 h2 => by
    refine ⟨_,hfr h2,Or.inl ⟨met.length,_,hm,by omega,rfl,by simp; omega,List.nodup_append.2 ⟨h.nd,by simp,fun a ha b hb => by simp at hb; subst hb; exact fun e => (by have := List.findIdx?_eq_none_iff.1 hf a ha; simp [e] at this)⟩,fun f hf2 => ?_,G,mn,v5,_,h1,fun k => Iff.rfl⟩⟩
    rcases List.mem_append.1 hf2 with h3 | h3
    ·exact h.of f h3
    ·exact ⟨S,kS,hS,by simpa using h3⟩
   obtain ⟨av,cv,rfl⟩ := qH hr.row
   have hl64 : ((met.length : Int) == 64) = false := by rw [beq_eq_false_iff_ne]; omega
   have hl65 : met.length ≤ 64 := by omega
   clear h hr hF t0 hsm hi hS kS hso hlk hfr hml hfew hf hm hl
   generalize hs : txB S = s at *
   clear hs
   generalize hML : met.length = L at *
   go_enter Tryz.func80,Tryz.ntmps80
   go_wp2_with fail
   refine jt.mono ?_
   rintro e w1 ⟨rfl,hq⟩
   have hR := HT.out w1 hq
   have c4 := hR.1.c4
   have c5 := hR.1.c5
   obtain ⟨hlook,w2,hrun,hn2,hg2⟩ := HLK.out w1 hR.1
   obtain ⟨hpo2,hrow2,fr2⟩ := hR.1.put hg2
   obtain ⟨vi,mp,vt,hb2,hgp⟩ := hpo2.blk
   have d5 : w2.cell? ⟨p,5,none⟩ = some (.slice av L cv) := qb hb2 5
   have hc3 : (w2.alloc (.cells #[.int .i64 (i : Int)] 3)).cell? ⟨w2.heap.size,0,none⟩ = some (.int .i64 (i : Int)) := qb (MapKept.heap_alloc w2 _).1 0
   rw [hML] at hrow2
   have hO3 : (w2.alloc (.cells #[.int .i64 (i : Int)] 3)).ownsRow 0 3 1 (.slice av L cv) L (encM met) := World.ownsRow.alloc hrow2 _
   have HPO : Hid _ := hpo2
   have HROW : Hid _ := hrow2
   have HN2 : Hid _ := hn2
   have HFR2 : Hid (Fr w w2 _ _) := hR.2.trans fr2
   clear jt hq hR HT HLK hpo2 hrow2 fr2 hb2 hgp hn2 hg2
   go_wp2_with (at_builtin; refine q4X Tryz.underlying80 q4n rfl (by decide) rfl _ _ rfl 0 _ L (encM met) (.int .i64 (i : Int)) w2.heap.size rfl rfl hO3 hc3 rfl (by omega) (Nat.zero_le _) ?_)
   intro v5 w5 hown5 hgr5 hloc5
   obtain ⟨a5,k5,rfl⟩ := qH hown5
   obtain ⟨e5,z5,hR5,fr5⟩ := HM1.out w2 w5 _ HPO.out HROW.out HN2.out hgr5 hown5 hloc5
   have HQ : Hid _ := HFIN.out _ _ hR5 (HFR2.out.trans fr5)
   clear hO3 hc3 hown5 hgr5 hloc5 hR5 fr5 d5 HPO HROW HN2 HFR2 HFIN HM1
   go_wp2
   go_ret
   exact HQ.out
  ·have hm : meetM S.flat M = none := by unfold meetM; rw [hf]; dsimp only; rw [if_neg hl]
   have HLK : Hid (∀ w1,PgR T0 w1 G p mn vm vs items met M → (Instr.lookup 79 (.map (some mn)) (.string (txB S)) true).run Tryz.prog w1 = .ok (.tuple #[.int .i64 0,.bool false]) w1) := fun w1 h1 => by
    have := h1.num.look hso
    rw [hlk,hf] at this
    exact this
   have HFIN : Hid (∀ w1,TextP T0 w G p 82 (pgRest p mn vm vs) items w1 → MetR T0 w F p vs items M S (.panicked thrownP) w1) := fun w1 hq => by
    obtain ⟨h1,h2⟩ := HT.out w1 hq
    exact ⟨_,hfr h2,Or.inr ⟨hm,rfl,h.few,h.nd,h.of,G,mn,vm,met,h1,fun k => Iff.rfl⟩⟩
   obtain ⟨av,cv,rfl⟩ := qH hr.row
   have hl64 : ((met.length : Int) == 64) = true := by rw [beq_iff_eq]; omega
   clear h hr hF t0 hsm hi hS kS hso hlk hfr hml hfew hf hm hl
   generalize txB S = s at *
   go_enter Tryz.func80,Tryz.ntmps80
   go_wp2_with fail
   refine jt.mono ?_
   rintro e w1 ⟨rfl,hq⟩
   have hR := (HT.out w1 hq).1
   have c4 := hR.c4
   have c5 := hR.c5
   have hlook := HLK.out w1 hR
   have HQ : Hid _ := HFIN.out w1 hq
   clear jt hq hR HT HFIN HLK
   go_wp2
   obtain ⟨F',fr,⟨_,_,_,_,h,_⟩ | ⟨h1,_,h3⟩⟩ := HQ.out
   ·cases h
   ·exact ⟨rfl,F',fr,Or.inr ⟨h1,rfl,h3⟩⟩
theorem q4L (op : Nat) (w : World) (h : op < 256) : Calls Tryz.prog 22 #[.int .u8 (op : Int)] w fun e w' => e = .returned (.int .i64 (100 + (op : Int))) ∧ w' = w := by
 have h1 := fun w' => qam op w' h
 clear h
 go_enter Tryz.func22,Tryz.ntmps22
 go_wp2_with (go_at_call 55; refine (h1 _).mono ?_; rintro e w' ⟨rfl,rfl⟩)
 go_ret
 exact ⟨rfl,rfl⟩
theorem qJ (zs : List Int) (ts : List Tk) (w : World) (he : zs.map tokOf = ts) (hz : ∀ z ∈ zs,0 ≤ z ∧ z < 356) (hl : zs.length ≤ 20) :
  Calls Tryz.prog 21 #[.slice (some ⟨w.heap.size,0,none⟩) zs.length zs.length] (w.alloc (.cells (zs.map (Value.int .i64)).toArray 3)) fun e w' => ∃ a cap,e = .returned (.slice a ts.length cap) ∧ w'.ownsRow w.heap.size 61 2 (.slice a ts.length cap) ts.length (encT ts) ∧ TkSl w' a ts.length cap ts ∧ Below w.heap.size w w' := by
 subst he
 have h5 := qbm _ _ _ zs _ (q8E zs w hl) hz (by omega)
 have hok : ∀ t ∈ zs.map tokOf,t.1 < 256 ∧ t.2 < 256 := fun t ht => by
  obtain ⟨z,hz1,rfl⟩ := List.mem_map.1 ht
  exact qd5 (hz z hz1).1 (hz z hz1).2
 have hsz : w.heap.size ≤ (w.alloc (.cells (zs.map (Value.int .i64)).toArray 3)).heap.size := by simp
 have hb0 := qe w (.cells (zs.map (Value.int .i64)).toArray 3)
 generalize w.alloc (.cells (zs.map (Value.int .i64)).toArray 3) = w0 at *
 generalize zs.map tokOf = ts at *
 go_enter Tryz.func21,Tryz.ntmps21
 go_wp2_with fail
 refine h5.mono ?_
 rintro e w1 ⟨v,rfl,hown,hb1⟩
 obtain ⟨a1,c1,rfl,hT1,_⟩ := qev hown hok
 have HO : Hid (w1.ownsRow w.heap.size 61 2 (.slice a1 ts.length c1) ts.length (encT ts)) := qbt hown hsz
 have HT : Hid (TkSl w1 a1 ts.length c1 ts) := hT1
 have HB1 : Hid (Below w.heap.size w w1) := qf hb0 hb1
 clear h5 hown hb1 hT1 hok
 go_wp2
 go_ret
 exact ⟨_,_,rfl,HO.out,HT.out,HB1.out⟩
theorem qdF : KT (.bin (15,0) (.leaf (2,0)) (.leaf (2,1))) := ⟨⟨rfl,rfl,⟨rfl,rfl⟩,rfl,rfl⟩,rfl,rfl⟩
theorem ProgC.made {Prg : PrgP} (C : ProgC Prg) {a : Option Addr} {len cap : Nat} {T : Tr} {w : World} (hT : KT T) (hS : TkSl w a len cap T.flat) (hl : T.flat.length ≤ 2048) (hB : Tab64 w) {l0 : List Nat} {M : Mt} (hn : needM T [] = some (l0,M)) :
  Calls Tryz.prog 13 #[.slice a len cap] w fun e w' => ∃ p F,e = .returned (.tuple #[pgV p,.int .i64 0]) ∧ PS Prg w w' F p l0 M := by
 have hc : chkE T.flat = 0 := q2l.2 ⟨hl,T,hT.wf,hT.np,hT.kr,rfl⟩
 refine (C.new a len cap T.flat w hS hB).mono ?_
 rintro e w' ⟨hb,⟨h1,_⟩ | ⟨S,hS2,he,_,h2⟩⟩
 ·exact absurd hc h1
 ·have hSn : needM S [] = needM T [] := by
   have e1 := q1D hT.wf
   have e2 := q1D hS2.wf
   rw [he] at e1
   rw [← e1,e2]
  rcases h2 with ⟨h3,_⟩ | ⟨l1,M1,p,F,h3,rfl,h4,h5⟩
  ·rw [hSn,hn] at h3; cases h3
  ·rw [hSn,hn] at h3
   injection h3 with h3
   injection h3 with h6 h7
   subst h6 h7
   exact ⟨p,F,rfl,h4,h5,hb⟩
theorem ProgC.went {Prg : PrgP} (C : ProgC Prg) {w0 w : World} {F : Nat → Prop} {p : Nat} {l0 : List Nat} {M : Mt} (h : PS Prg w0 w F p l0 M) (hT : Tab64 w0) (a : Option Addr) (n c : Nat) (l : List Nat) (x : Nat) (hU : US w F a n c l) (hs : Sm l) (hn : n ≤ 1024) (hb : BdL l M.length) (hx : x < 256) {L : List Nat} {M' : Mt} (hr : stepM fuelN x l [] M = some (L,M')) :
  Calls Tryz.prog 15 #[pgV p,.slice a n c,.int .u8 (x : Int)] w fun e w' => ∃ q d F',e = .returned (.tuple #[.slice q L.length d,.int .i64 0]) ∧ US w' F' q L.length d L ∧ PS Prg w0 w' F' p l0 M' ∧ Fr w w' F F' := by
 refine (C.step a n c l x h.prg (hT.up h.bel) hU hs hn hb hx).mono ?_
 rintro e w' ⟨F',fr,⟨q,d,h1,_⟩ | ⟨L1,M1,q,d,h1,rfl,h2,h3⟩⟩
 ·rw [hr] at h1; cases h1
 ·rw [hr] at h1
  injection h1 with h1
  injection h1 with h4 h5
  subst h4 h5
  exact ⟨q,d,F',rfl,h2,h.fr h3 fr,fr⟩
theorem ProgC.told {Prg : PrgP} (C : ProgC Prg) {w0 w : World} {F : Nat → Prop} {p : Nat} {l0 : List Nat} {M : Mt} (h : PS Prg w0 w F p l0 M) :
  Calls Tryz.prog 14 #[pgV p] w fun e w' => ∃ q d F',e = .returned (.slice q l0.length d) ∧ US w' F' q l0.length d l0 ∧ PS Prg w0 w' F' p l0 M ∧ Fr w w' F F' := by
 refine (C.start h.prg).mono ?_
 rintro e w' ⟨q,d,F',rfl,h1,h2,fr⟩
 exact ⟨q,d,F',rfl,h1,h.fr h2 fr,fr⟩
theorem q3I (a : Addr) (w : World) : (binOp .eql 30 (.pointer (some a)) (.pointer none)).run Tryz.prog w = .ok (.bool false) w := by
 have h : ∀ d : Nat,(Op.equalIn (d + 1) 30 (.pointer (some a)) (.pointer none)).run Tryz.prog w = .ok false w := fun d => by
  simp [Op.equalIn,run_underlying Tryz.underlying30]
 simp only [binOp]
 simp [Op.equal,Op.maxDepth,h 9999]
theorem bd1 (m : Nat) (h : 0 < m) : BdL [1] m := q79 (i := 0) h
theorem q3C {Prg : PrgP} (C : ProgC Prg) (w : World) (hT : Tab64 w) : Calls Tryz.prog 9 #[] w (BR true w) := by
 have HC : Hid (ProgC Prg) := C
 have HT : Hid (Tab64 w) := hT
 have o15 : ∀ w',Calls Tryz.prog 22 #[.int .u8 15] w' fun e w'' => e = .returned (.int .i64 115) ∧ w'' = w' := fun w' => q4L 15 w' (by decide)
 have tt := fun w' => qJ [0,1,115] [(2,0),(2,1),(15,0)] w' rfl (by decide) (by decide)
 dsimp only [List.map_cons,List.map_nil,List.length_cons,List.length_nil,Nat.zero_add,Nat.reduceAdd] at tt
 clear C hT
 go_enter Tryz.func9,Tryz.ntmps9
 go_wp2_with fail
 refine (o15 _).mono ?_
 rintro e w' ⟨rfl,hw'⟩
 obtain rfl := hw'.symm
 go_wp2_with fail
 refine (tt _).mono ?_
 rintro e x0 ⟨a1,c1,rfl,ho,hTk,hb⟩
 have HB0 : Hid (Below w.heap.size w x0) := hb
 have HT0 : Hid (Tab64 x0) := HT.out.up hb
 have jN := HC.out.made (T := .bin (15,0) (.leaf (2,0)) (.leaf (2,1))) qdF hTk (by decide) HT0.out pk1
 clear o15 tt ho hTk hb HT
 go_wp2_with fail
 refine jN.mono ?_
 rintro e w0 ⟨p,F0,rfl,hP⟩
 have HP0 : Hid (PS Prg x0 w0 F0 p [1] [[(2,0),(2,1),(15,0)]]) := hP
 have hno := fun w => q3I ⟨p,0,none⟩ w
 unfold pgV
 clear jN hP
 have jj := HC.out.told HP0.out
 unfold pgV at jj
 go_wp2_with fail
 refine jj.mono ?_
 rintro e w1 ⟨sa,sad,F1,rfl,hU,hP,fr⟩
 have SA_1 : Hid (US w1 F1 sa 1 sad [1]) := hU
 have HP1 : Hid (PS Prg x0 w1 F1 p [1] [[(2,0),(2,1),(15,0)]]) := hP
 clear jj hU hP fr HP0
 dsimp only [List.length_cons,List.length_nil,Nat.zero_add,Nat.reduceAdd]
 have jj := HC.out.went HP1.out HT0.out sa 1 sad [1] 1 SA_1.out (by unfold Sm; decide) (by decide) (bd1 _ (by decide)) (by decide) pk2
 unfold pgV at jj
 go_wp2_with fail
 refine jj.mono ?_
 rintro e w2 ⟨ra,rad,F2,rfl,hU,hP,fr⟩
 clear SA_1
 have RA_2 : Hid (US w2 F2 ra 1 rad [1]) := hU
 have HP2 : Hid (PS Prg x0 w2 F2 p [1] [[(2,0),(2,1),(15,0)]]) := hP
 clear jj hU hP fr HP1
 dsimp only [List.length_cons,List.length_nil,Nat.zero_add,Nat.reduceAdd]
 have jj := HC.out.told HP2.out
 unfold pgV at jj
 go_wp2_with fail
 refine jj.mono ?_
 rintro e w3 ⟨sb,sbd,F3,rfl,hU,hP,fr⟩
 have RA_3 : Hid (US w3 F3 ra 1 rad [1]) := RA_2.out.fr fr
 clear RA_2
 have SB_3 : Hid (US w3 F3 sb 1 sbd [1]) := hU
 have HP3 : Hid (PS Prg x0 w3 F3 p [1] [[(2,0),(2,1),(15,0)]]) := hP
 clear jj hU hP fr HP2
 dsimp only [List.length_cons,List.length_nil,Nat.zero_add,Nat.reduceAdd]
 have jj := HC.out.went HP3.out HT0.out sb 1 sbd [1] 2 SB_3.out (by unfold Sm; decide) (by decide) (bd1 _ (by decide)) (by decide) pk3
 unfold pgV at jj
 go_wp2_with fail
 refine jj.mono ?_
 rintro e w4 ⟨rb,rbd,F4,rfl,hU,hP,fr⟩
 clear SB_3
 have RA_4 : Hid (US w4 F4 ra 1 rad [1]) := RA_3.out.fr fr
 clear RA_3
 have RB_4 : Hid (US w4 F4 rb 1 rbd [0]) := hU
 have HP4 : Hid (PS Prg x0 w4 F4 p [1] [[(2,0),(2,1),(15,0)]]) := hP
 clear jj hU hP fr HP3
 dsimp only [List.length_cons,List.length_nil,Nat.zero_add,Nat.reduceAdd]
 have jj := HC.out.told HP4.out
 unfold pgV at jj
 go_wp2_with fail
 refine jj.mono ?_
 rintro e w5 ⟨sc,scd,F5,rfl,hU,hP,fr⟩
 have RA_5 : Hid (US w5 F5 ra 1 rad [1]) := RA_4.out.fr fr
 clear RA_4
 have RB_5 : Hid (US w5 F5 rb 1 rbd [0]) := RB_4.out.fr fr
 clear RB_4
 have SC_5 : Hid (US w5 F5 sc 1 scd [1]) := hU
 have HP5 : Hid (PS Prg x0 w5 F5 p [1] [[(2,0),(2,1),(15,0)]]) := hP
 clear jj hU hP fr HP4
 dsimp only [List.length_cons,List.length_nil,Nat.zero_add,Nat.reduceAdd]
 have jj := HC.out.went HP5.out HT0.out sc 1 scd [1] 0 SC_5.out (by unfold Sm; decide) (by decide) (bd1 _ (by decide)) (by decide) pk4
 unfold pgV at jj
 go_wp2_with fail
 refine jj.mono ?_
 rintro e w6 ⟨rc,rcd,F6,rfl,hU,hP,fr⟩
 clear SC_5
 have RA_6 : Hid (US w6 F6 ra 1 rad [1]) := RA_5.out.fr fr
 clear RA_5
 have RB_6 : Hid (US w6 F6 rb 1 rbd [0]) := RB_5.out.fr fr
 clear RB_5
 have RC_6 : Hid (US w6 F6 rc 0 rcd []) := hU
 have HP6 : Hid (PS Prg x0 w6 F6 p [1] [[(2,0),(2,1),(15,0)]]) := hP
 clear jj hU hP fr HP5
 dsimp only [List.length_cons,List.length_nil,Nat.zero_add,Nat.reduceAdd]
 have jj := HC.out.told HP6.out
 unfold pgV at jj
 go_wp2_with fail
 refine jj.mono ?_
 rintro e w7 ⟨sd,sdd,F7,rfl,hU,hP,fr⟩
 have RA_7 : Hid (US w7 F7 ra 1 rad [1]) := RA_6.out.fr fr
 clear RA_6
 have RB_7 : Hid (US w7 F7 rb 1 rbd [0]) := RB_6.out.fr fr
 clear RB_6
 have RC_7 : Hid (US w7 F7 rc 0 rcd []) := RC_6.out.fr fr
 clear RC_6
 have SD_7 : Hid (US w7 F7 sd 1 sdd [1]) := hU
 have HP7 : Hid (PS Prg x0 w7 F7 p [1] [[(2,0),(2,1),(15,0)]]) := hP
 clear jj hU hP fr HP6
 dsimp only [List.length_cons,List.length_nil,Nat.zero_add,Nat.reduceAdd]
 have hn : Below w7.heap.size w7 (w7.alloc (.cells #[.int .u64 1] 52)) := qe _ _
 have l0 : USl (w7.alloc (.cells #[.int .u64 1] 52)) (some ⟨w7.heap.size,0,none⟩) 1 1 [1] := q1m [1] w7 (by decide)
 have jj := q1M sd 1 sdd [1] _ 1 1 [1] _ (SD_7.out.up hn).sl l0
 rw [decide_eq_true rfl] at jj
 have HN : Hid _ := hn
 clear l0 hn
 go_wp2_with fail
 refine jj.mono ?_
 rintro e w8 ⟨rfl,hb⟩
 have hst : Below w7.heap.size w7 w8 := qf HN.out hb
 clear SD_7
 have RA_8 : Hid (US w8 F7 ra 1 rad [1]) := RA_7.out.up hst
 clear RA_7
 have RB_8 : Hid (US w8 F7 rb 1 rbd [0]) := RB_7.out.up hst
 clear RB_7
 have RC_8 : Hid (US w8 F7 rc 0 rcd []) := RC_7.out.up hst
 clear RC_7
 have HP8 : Hid (PS Prg x0 w8 F7 p [1] [[(2,0),(2,1),(15,0)]]) := HP7.out.up HC.out hst
 clear jj hb hst HN HP7
 have hn : Below w8.heap.size w8 (w8.alloc (.cells #[.int .u64 1] 52)) := qe _ _
 have l0 : USl (w8.alloc (.cells #[.int .u64 1] 52)) (some ⟨w8.heap.size,0,none⟩) 1 1 [1] := q1m [1] w8 (by decide)
 have jj := q1M ra 1 rad [1] _ 1 1 [1] _ (RA_8.out.up hn).sl l0
 rw [decide_eq_true rfl] at jj
 have HN : Hid _ := hn
 clear l0 hn
 go_wp2_with fail
 refine jj.mono ?_
 rintro e w9 ⟨rfl,hb⟩
 have hst : Below w8.heap.size w8 w9 := qf HN.out hb
 clear RA_8
 have RB_9 : Hid (US w9 F7 rb 1 rbd [0]) := RB_8.out.up hst
 clear RB_8
 have RC_9 : Hid (US w9 F7 rc 0 rcd []) := RC_8.out.up hst
 clear RC_8
 have HP9 : Hid (PS Prg x0 w9 F7 p [1] [[(2,0),(2,1),(15,0)]]) := HP8.out.up HC.out hst
 clear jj hb hst HN HP8
 have hn : Below w9.heap.size w9 (w9.alloc (.cells #[.int .u64 0] 52)) := qe _ _
 have l0 : USl (w9.alloc (.cells #[.int .u64 0] 52)) (some ⟨w9.heap.size,0,none⟩) 1 1 [0] := q1m [0] w9 (by decide)
 have jj := q1M rb 1 rbd [0] _ 1 1 [0] _ (RB_9.out.up hn).sl l0
 rw [decide_eq_true rfl] at jj
 have HN : Hid _ := hn
 clear l0 hn
 go_wp2_with fail
 refine jj.mono ?_
 rintro e w10 ⟨rfl,hb⟩
 have hst : Below w9.heap.size w9 w10 := qf HN.out hb
 clear RB_9
 have RC_10 : Hid (US w10 F7 rc 0 rcd []) := RC_9.out.up hst
 clear RC_9
 have HP10 : Hid (PS Prg x0 w10 F7 p [1] [[(2,0),(2,1),(15,0)]]) := HP9.out.up HC.out hst
 clear jj hb hst HN HP9
 go_wp2_with fail
 go_ret
 exact ⟨rfl,qf HB0.out HP10.out.bel⟩
theorem qe2 {zs : List Int} {k : Nat} (h : k < zs.length) (h0 : ∀ z ∈ zs,0 ≤ z ∧ z < 256) : ∃ x : Nat,zs.getD k 0 = (x : Int) ∧ x < 256 ∧ (zN zs)[k]? = some x := by
 have hm := h0 zs[k] (List.getElem_mem h)
 refine ⟨zs[k].toNat,?_,by omega,?_⟩
 ·rw [List.getD_eq_getElem?_getD,List.getElem?_eq_getElem h]
  show zs[k] = _
  omega
 ·unfold zN
  rw [List.getElem?_map,List.getElem?_eq_getElem h]; rfl
structure Now (Prg : PrgP) (w wr : World) (F : Nat → Prop) (p : Nat) (l0 : List Nat) (t : List Nat) (T : Tr) (i : Nat) (q : Option Addr) (n c : Nat) (l : List Nat) (M : Mt) : Prop where
 ps : PS Prg w wr F p l0 M
 us : US wr F q n c l
 at_ : At t T i l M
 few : n ≤ 1024
theorem Now.sm {Prg : PrgP} {w wr : World} {F : Nat → Prop} {p : Nat} {l0 t : List Nat} {T : Tr} {i : Nat} {q : Option Addr} {n c : Nat} {l : List Nat} {M : Mt} (h : Now Prg w wr F p l0 t T i q n c l M) : Sm l := h.at_.lt
theorem Now.step {Prg : PrgP} (C : ProgC Prg) {w wr : World} {F : Nat → Prop} {p : Nat} {l0 t : List Nat} {T : Tr} {i : Nat} {q : Option Addr} {n c : Nat} {l : List Nat} {M : Mt} (h : Now Prg w wr F p l0 t T i q n c l M) (hT : Tab64 w) {x : Nat} (hx : t[i]? = some x) (hx2 : x < 256) :
  Calls Tryz.prog 15 #[pgV p,.slice q n c,.int .u8 (x : Int)] wr fun e w' => ∃ F' q' n' c' l' M' E,e = .returned (.tuple #[.slice q' n' c',.int .i64 E]) ∧ Fr wr w' F F' ∧ PS Prg w w' F' p l0 M' ∧ US w' F' q' n' c' l' ∧ ((E = 9 ∧ stepM fuelN x l [] M = none ∧ M' = M ∧ l' = []) ∨ (E = 0 ∧ stepM fuelN x l [] M = some (l',M') ∧ Now Prg w w' F' p l0 t T (i + 1) q' n' c' l' M' ∧ l' = leastL l')) := by
 refine (C.step q n c l x h.ps.prg (hT.up h.ps.bel) h.us h.sm h.few h.at_.bd hx2).mono ?_
 rintro e w' ⟨F',fr,⟨q',d,h1,rfl,h2,h3⟩ | ⟨L,M',q',d,h1,rfl,h2,h3⟩⟩
 ·exact ⟨F',q',0,d,[],M,9,rfl,fr,h.ps.fr h3 fr,h2,Or.inl ⟨rfl,h1,rfl,rfl⟩⟩
 ·have hl := q9h fuelN x l [] (by simp) h1
  exact ⟨F',q',L.length,d,L,M',0,rfl,fr,h.ps.fr h3 fr,h2,Or.inr ⟨rfl,h1,⟨h.ps.fr h3 fr,h2,h.at_.step hx h1,hl⟩,q6k (by rfl) h1⟩⟩
def propsM : List Tk → Nat → Nat
 | [],x => x
 | t :: r,x => propsM r (if t.1 = 2 then x ||| 2 ^ t.2 else x)
theorem qeu {x p : Nat} (hx : x < 256) (hp : p ≤ 7) : x ||| 2 ^ p < 256 := by
 have : 2 ^ p < 2 ^ 8 := Nat.pow_lt_pow_right (by decide) (by omega)
 exact Nat.or_lt_two_pow (n := 8) hx this
theorem q5A : ∀ (ts : List Tk) (x : Nat),(∀ p,(2,p) ∈ ts → p ≤ 7) → x < 256 → tpropsI ts (x : Int) = (propsM ts x : Int) ∧ propsM ts x < 256
 | [],x,_,hx => ⟨rfl,hx⟩
 | (op,p) :: r,x,h,hx => by
  have hr : ∀ p,(2,p) ∈ r → p ≤ 7 := fun q hq => h q (by simp [hq])
  unfold tpropsI propsM
  dsimp only
  by_cases e : op = 2
  ·subst e
   have hp := h p (by simp)
   rw [if_pos rfl,if_pos rfl]
   have e1 : ((2 : Int) ^ min p 8 % 256) = ((2 ^ p : Nat) : Int) := by
    rw [Nat.min_eq_left (by omega)]
    have : 2 ^ p < 2 ^ 8 := Nat.pow_lt_pow_right (by decide) (by omega)
    rw [show (2 : Int) ^ p = ((2 ^ p : Nat) : Int) by simp]
    generalize 2 ^ p = z at *
    omega
   have hp2 : 2 ^ p < 256 := Nat.pow_lt_pow_right (n := 8) (by decide) (by omega)
   rw [e1,u8_or_nat x (2 ^ p) hx hp2]
   exact q5A r _ hr (qeu hx hp)
  ·rw [if_neg e,if_neg e]
   exact q5A r x hr hx
theorem q7Y : ∀ (ts : List Tk) (x p : Nat),(x.testBit p = true ∨ (2,p) ∈ ts) → (propsM ts x).testBit p = true
 | [],x,p,h => by
  rcases h with h | h
  ·exact h
  ·cases h
 | (op,q) :: r,x,p,h => by
  unfold propsM
  dsimp only
  refine q7Y r _ p ?_
  rcases h with h | h
  ·left
   split
   ·rw [Nat.testBit_or,h]; rfl
   ·exact h
  ·rcases List.mem_cons.1 h with h | h
   ·injection h with h1 h2
    subst h1 h2
    left
    rw [if_pos rfl,Nat.testBit_or,Nat.testBit_two_pow]
    simp
   ·exact Or.inr h
theorem q3A : ∀ T : Tr,T.WF → ∀ p,(2,p) ∈ T.flat → p ≤ 7
 | .leaf (op,q),h,p,hp => by
  simp [Tr.flat] at hp
  obtain ⟨rfl,rfl⟩ := hp
  rcases qN h with ⟨_,h2⟩ | ⟨rfl,h2⟩
  ·exact h2
  ·omega
 | .un (op,q) c,h,p,hp => by
  rcases List.mem_append.1 hp with hp | hp
  ·exact q3A c h.2.2 p hp
  ·simp at hp
   obtain ⟨rfl,rfl⟩ := hp
   obtain ⟨_,_,_,ho⟩ := qD h
   omega
 | .bin (op,q) c d,h,p,hp => by
  rcases List.mem_append.1 hp with hp | hp
  ·rcases List.mem_append.1 hp with hp | hp
   ·exact q3A c h.2.2.1 p hp
   ·exact q3A d h.2.2.2 p hp
  ·simp at hp
   obtain ⟨rfl,rfl⟩ := hp
   obtain ⟨_,_,_,_,ho⟩ := qA h
   omega
def blend (x z X : Nat) : Nat := (x &&& X) ||| (z &&& (255 - X))
theorem qcF {x z X : Nat} (hx : x < 256) (hz : z < 256) : blend x z X < 256 :=
 Nat.or_lt_two_pow (n := 8) (Nat.lt_of_le_of_lt Nat.and_le_left hx) (Nat.lt_of_le_of_lt Nat.and_le_left hz)
theorem qcM {x z X : Nat} (hx : x < 256) (hz : z < 256) (hX : X < 256) : bits .or .u8 (bits .and .u8 (x : Int) (X : Int)) (bits .andNot .u8 (z : Int) (X : Int)) = (blend x z X : Int) := by
 rw [u8_and_nat x X hx hX,u8_andNot_nat z X hz hX]
 exact u8_or_nat _ _ (Nat.lt_of_le_of_lt Nat.and_le_left hx) (Nat.lt_of_le_of_lt Nat.and_le_left hz)
theorem qb1 {x z X : Nat} (hX : X < 256) : Like (fun p => X.testBit p = true) x (blend x z X) := by
 intro p hp
 have hp8 : p < 8 := by
  apply Nat.lt_of_not_le
  intro hle
  rw [Nat.testBit_lt_two_pow (Nat.lt_of_lt_of_le hX (Nat.pow_le_pow_right (n := 2) (by decide) hle : 2 ^ 8 ≤ 2 ^ p))] at hp
  cases hp
 have hb := Nat.testBit_two_pow_sub_succ (n := 8) (x := X) hX p
 rw [show 2 ^ 8 - (X + 1) = 255 - X by omega] at hb
 unfold blend
 rw [Nat.testBit_or,Nat.testBit_and,Nat.testBit_and,hb,hp]
 simp
theorem ProgC.twice {Prg : PrgP} (C : ProgC Prg) {w0 w : World} {F : Nat → Prop} {p : Nat} {l0 : List Nat} {M0 M' : Mt} (h : PS Prg w0 w F p l0 M') (hT : Tab64 w0) {a : Option Addr} {n c : Nat} {l l' : List Nat} {x y : Nat} {X : Nat → Prop} {E : Int} (hU : US w F a n c l) (hs : Sm l) (hn : n ≤ 1024) (hb : BdL l M0.length) (hy : y < 256) (hxy : Like X x y) (hM : GoodM M0) (hp : PrM X M0)
  (hr : (E = 9 ∧ stepM fuelN x l [] M0 = none ∧ M' = M0 ∧ l' = []) ∨ (E = 0 ∧ stepM fuelN x l [] M0 = some (l',M'))) :
  Calls Tryz.prog 15 #[pgV p,.slice a n c,.int .u8 (y : Int)] w fun e w' => ∃ q d F',e = .returned (.tuple #[.slice q l'.length d,.int .i64 E]) ∧ US w' F' q l'.length d l' ∧ PS Prg w0 w' F' p l0 M' ∧ Fr w w' F F' := by
 rcases hr with ⟨rfl,h1,rfl,rfl⟩ | ⟨rfl,h1⟩
 ·have h2 := qcd hxy hM hp hb h1
  refine (C.step a n c l y h.prg (hT.up h.bel) hU hs hn hb hy).mono ?_
  rintro e w' ⟨F',fr,⟨q,d,_,rfl,h4,h5⟩ | ⟨L,M2,q,d,h3,_⟩⟩
  ·exact ⟨q,d,F',rfl,h4,h.fr h5 fr,fr⟩
  ·rw [h2] at h3; cases h3
 ·have h2 := qbn hxy hM hp hb h1
  have hpre := (q34 fuelN x l [] M0 M' l' hb h1).1
  refine (C.step a n c l y h.prg (hT.up h.bel) hU hs hn (hb.mono (q1g hpre)) hy).mono ?_
  rintro e w' ⟨F',fr,⟨q,d,h3,_⟩ | ⟨L,M2,q,d,h3,rfl,h4,h5⟩⟩
  ·rw [h2] at h3; cases h3
  ·rw [h2] at h3
   injection h3 with h3
   injection h3 with h6 h7
   subst h6 h7
   exact ⟨q,d,F',rfl,h4,h.fr h5 fr,fr⟩
theorem q6C {Prg : PrgP} (C : ProgC Prg) (hChk : ChkC 11) (a : Option Addr) (la ca : Nat) (xs : List Tk) (d : Option Addr) (m c : Nat) (zs : List Int) (z : Nat) (w : World) (hA : TkSl w a la ca xs) (hL : LtSl w d m c zs) (hz : z < 256) (hT : Tab64 w) :
  Calls Tryz.prog 4 #[.slice a la ca,.slice d m c,.int .u8 (z : Int)] w (BR true w) := by
 have HC : Hid (ProgC Prg) := C
 have HT : Hid (Tab64 w) := hT
 have HA : Hid (TkSl w a la ca xs) := hA
 have HL : Hid (LtSl w d m c zs) := hL
 have HK : Hid (ChkC 11) := hChk
 have HLA : Hid (xs.length = la) := hA.hlen
 have HLN : Hid (zs.length = m) := hL.sl.hlen
 have bda := Nat.le_trans hA.hcap hA.bd
 have bdm := Nat.le_trans hL.sl.hcap hL.sl.bd
 have hidx := fun (k : Nat) (w : World) (h : k < m) => hL.sl.idx m k w h (Nat.le_refl _)
 have j0 := q3C C w hT
 clear C hT hA hL hChk
 go_enter Tryz.func4,Tryz.ntmps4
 go_wp2_with fail
 refine j0.mono ?_
 rintro e w0 ⟨rfl,hb⟩
 have HB0 : Hid (Below w.heap.size w w0) := hb
 clear j0 hb
 by_cases c1 : (40 : Int) < (la : Int)
 ·have c1b : decide ((40 : Int) < (la : Int)) = true := decide_eq_true c1
  go_wp2_with fail
  go_ret
  exact ⟨rfl,HB0.out⟩
 have c1b : decide ((40 : Int) < (la : Int)) = false := decide_eq_false c1
 by_cases c2 : (8 : Int) < (m : Int)
 ·have c2b : decide ((8 : Int) < (m : Int)) = true := decide_eq_true c2
  go_wp2_with fail
  go_ret
  exact ⟨rfl,HB0.out⟩
 have c2b : decide ((8 : Int) < (m : Int)) = false := decide_eq_false c2
 have k1 := HK.out a la ca xs w0 (HA.out.up HB0.out)
 obtain ⟨E1,hE1⟩ : ∃ E,E = chkE xs := ⟨_,rfl⟩
 have HE1 : Hid (E1 = chkE xs) := hE1
 rw [← hE1] at k1
 clear hE1
 go_wp2_with fail
 refine k1.mono ?_
 rintro e w1 ⟨rfl,hb⟩
 have HB1 : Hid (Below w.heap.size w w1) := qf HB0.out hb
 clear k1 hb HB0
 by_cases d1 : E1 = 0
 case neg =>
  have d1' : ((E1 : Int) != 0) = true := by simp; omega
  go_wp2_with fail
  go_ret
  exact ⟨rfl,HB1.out⟩
 subst d1
 have k2 := q6T a la ca xs w1 (HA.out.up HB1.out)
 obtain ⟨E2,hE2⟩ : ∃ E,E = lookE xs 1 := ⟨_,rfl⟩
 have HE2 : Hid (E2 = lookE xs 1) := hE2
 rw [← hE2] at k2
 clear hE2
 go_wp2_with fail
 refine k2.mono ?_
 rintro e w2 ⟨rfl,hb⟩
 have HB2 : Hid (Below w.heap.size w w2) := qf HB1.out hb
 clear k2 hb HB1
 by_cases d2 : E2 = 0
 case neg =>
  have d2' : ((E2 : Int) != 0) = true := by simp; omega
  go_wp2_with fail
  go_ret
  exact ⟨rfl,HB2.out⟩
 subst d2
 obtain ⟨hk1,T,hK,hxs⟩ := qed HE1.out.symm
 have hl4 : lookE xs 4 = 0 := look4 (Or.inl HE2.out.symm)
 obtain ⟨hpi,hX⟩ := q5A xs 0 (fun p hp => q3A T hK.wf p (hxs ▸ hp)) (by decide)
 have k3 := q6n a la ca xs w2 (HA.out.up HB2.out)
 have hpi2 : tpropsI xs 0 = (propsM xs 0 : Int) := hpi
 rw [if_pos hl4,hl4,hpi2] at k3
 obtain ⟨X,hXe⟩ : ∃ X,X = propsM xs 0 := ⟨_,rfl⟩
 rw [← hXe] at k3 hX
 have HPX : Hid (Pr (fun p => X.testBit p = true) T.flat) := fun p hp => by
  rw [hXe]
  exact q7Y xs 0 p (Or.inr (hxs ▸ hp))
 have HKT : Hid (KT T) := hK
 have HXS : Hid (xs = T.flat) := hxs
 have HC0 : Hid (chkE xs = 0) := HE1.out.symm
 clear hk1 hK hxs hl4 hpi hpi2 hXe HE1 HE2 HK
 have m8 : m ≤ 8 := by omega
 clear c1 c2 c1b c2b
 go_wp2_with fail
 refine k3.mono ?_
 rintro e w3 ⟨rfl,hb⟩
 have HB3 : Hid (Below w.heap.size w w3) := qf HB2.out hb
 clear k3 hb HB2
 have jN := HC.out.new a la ca xs w3 (HA.out.up HB3.out) (HT.out.up HB3.out)
 have hno := fun (p : Nat) w => q3I ⟨p,0,none⟩ w
 go_wp2_with fail
 refine jN.mono ?_
 rintro e w4 ⟨hb,⟨h1,_⟩ | ⟨S,hS2,he,_,h2⟩⟩
 ·exact absurd HC0.out h1
 have hSn : needM S [] = needM T [] := by
  have e1 := q1D HKT.out.wf
  have e2 := q1D hS2.wf
  rw [← HXS.out,he] at e1
  rw [← e1,e2]
 rcases h2 with ⟨h3,rfl⟩ | ⟨l0,M,p,F,h3,rfl,h4,h5⟩
 ·have HB : Hid (Below w.heap.size w w4) := qf HB3.out hb
  clear jN hS2 he hSn h3 hb
  go_wp2_with fail
  go_ret
  exact ⟨rfl,HB.out⟩
 rw [hSn] at h3
 have HP : Hid (PS Prg w w4 F p l0 M) := ⟨h4,fun k hk => Nat.le_trans HB3.out.size (h5 k hk),qf HB3.out hb⟩
 have HAt : Hid (At (zN zs) T 0 l0 M) := At.start HKT.out h3
 have HF : Hid (l0.length ≤ 1024) := q1P T h3
 have HPM : Hid (PrM (fun p => X.testBit p = true) M) := q28 T HPX.out (fun f hf => by cases hf) h3
 have jS := HC.out.told HP.out
 clear jN hS2 he hSn h3 hb h4 h5
 unfold pgV at jS ⊢
 go_wp2_with fail
 refine jS.mono ?_
 rintro e w5 ⟨q,qd,F5,rfl,hU,hP5,_⟩
 have HN : Hid (Now Prg w w5 F5 p l0 (zN zs) T 0 q l0.length qd l0 M) := ⟨hP5,hU,HAt.out,HF.out⟩
 clear jS hU hP5 HP HAt HF
 generalize l0.length = n0 at *
 go_wp2
 go_loopw [12,13] (fun v12 v13 wr => ∃ k : Nat,k ≤ m ∧ v13 = .int .i64 (k : Int) ∧ ∃ F q n c l M,v12 = .slice q n c ∧ Hid (Now Prg w wr F p l0 (zN zs) T k q n c l M) ∧ Hid (PrM (fun p => X.testBit p = true) M)) (fun _ v13 _ => m - (intOf v13).toNat)
 case atStart => exact ⟨0,Nat.zero_le _,rfl,F5,q,n0,qd,l0,M,rfl,HN,HPM⟩
 case round =>
  obtain ⟨k,hk,rfl,F6,q6,n6,c6,l6,M6,rfl,HW,HM6⟩ := hrel
  clear HN HPM
  by_cases hlt : k < m
  ·obtain ⟨x,hx1,hx2,hx3⟩ := qe2 (k := k) (by rw [HLN.out]; exact hlt) HL.out.ok
   have hcell := (HL.out.up HW.out.ps.bel).sl.cell k hlt
   rw [hx1] at hcell
   have hx := fun w' => hidx k w' hlt
   have jj := HW.out.step HC.out HT.out hx3 hx2
   clear hidx hx1
   unfold pgV at jj
   go_wp2_with fail
   refine jj.mono ?_
   rintro e w7 ⟨F7,q7,n7,c7,l7,M7,E,rfl,fr,hP7,hU7,hres⟩
   have hn7 : n7 = l7.length := hU7.sl.len
   subst hn7
   have hcell7 := (HL.out.up hP7.bel).sl.cell k hlt
   rw [show zs.getD k 0 = (x : Int) by
    have := (HL.out.up HW.out.ps.bel).sl.cell k hlt
    rw [hcell] at this
    injection this with this
    injection this with _ this
    exact this.symm] at hcell7
   have j2 := HC.out.twice (E := E) (l' := l7) (x := x) (y := blend x z X) hP7 HT.out (HW.out.us.fr fr) HW.out.sm HW.out.few HW.out.at_.bd (qcF hx2 hz) (qb1 hX) HW.out.at_.good HM6.out (hres.imp id fun h => ⟨h.1,h.2.1⟩)
   have hbl := qcM hx2 hz hX
   have HU7 : Hid _ := hU7
   have HRES : Hid _ := hres
   have HPM7 : Hid (E = 0 → PrM (fun p => X.testBit p = true) M7) := fun hE => by
    rcases hres with ⟨h1,_⟩ | ⟨_,h1,_⟩
    ·omega
    ·exact q6O fuelN x l6 [] M6 M7 l7 HW.out.at_.good HM6.out HW.out.at_.bd h1
   clear jj fr hP7 hU7 hres HW HM6 hcell
   unfold pgV at j2
   go_wp2_with fail
   refine j2.mono ?_
   rintro e w8 ⟨q8,d8,F8,rfl,hU8,hP8,fr8⟩
   have HU8 : Hid _ := hU8
   have HP8 : Hid _ := hP8
   have HV8 : Hid _ := HU7.out.fr fr8
   have j3 := q6S q7 l7.length c7 l7 q8 l7.length d8 l7 w8 HV8.out.sl hU8.sl
   rw [decide_eq_true rfl] at j3
   have hEE : ((E : Int) != E) = false := by simp
   clear j2 hU8 hP8 fr8 hbl hcell7 HU7
   go_wp2_with fail
   refine j3.mono ?_
   rintro e w9 ⟨rfl,hb9⟩
   have HP9 : Hid _ := HP8.out.up HC.out hb9
   have HV9 : Hid _ := HV8.out.up hb9
   clear j3 hb9 HP8 HV8 HU8
   rcases HRES.out with ⟨rfl,h1,h2,h3⟩ | ⟨rfl,h1,hN,h3⟩
   ·clear h1 h2 h3
    go_wp2_with fail
    go_ret
    exact ⟨rfl,HP9.out.bel⟩
   ·have HN9 : Hid (Now Prg w w9 F8 p l0 (zN zs) T (k + 1) q7 l7.length c7 l7 M7) := ⟨HP9.out,HV9.out,hN.at_,hN.few⟩
    have HPM9 : Hid _ := HPM7.out rfl
    clear hN HRES HPM7 HP9 HV9 hEE h1 h3
    go_wp2
    go_roundw
    case rel => exact ⟨k + 1,by omega,by go_num,F8,q7,l7.length,c7,l7,M7,rfl,HN9,HPM9⟩
    case measure => simp [intOf]; omega
  ·obtain rfl : k = m := by omega
   go_wp2
   go_ret
   exact ⟨rfl,HW.out.ps.bel⟩
theorem q6u (a : Option Addr) (n c : Nat) (rs : List Pc) (b : Option Addr) (d : Nat) (qs : List Pc) (w : World) (hA : RwSl w a n c rs) (hB : RwSl w b n d qs) (he : rs.map (·.ts) = qs.map (·.ts)) :
  Calls Tryz.prog 23 #[.slice a n c,.slice b n d] w (BR true w) := by
 have hb0 := Nat.le_trans hA.hcap hA.bd
 unfold maxLen at hb0
 have HA : Hid (RwSl w a n c rs) := hA
 have HB : Hid (RwSl w b n d qs) := hB
 have HE : Hid (∀ k (h : k < rs.length) (h' : k < qs.length),rs[k].ts = qs[k].ts) := fun k h h' => by
  have := congrArg (fun l => l[k]?) he
  simp only [List.getElem?_map,List.getElem?_eq_getElem h,List.getElem?_eq_getElem h',Option.map_some,Option.some.injEq] at this
  exact this
 clear hA hB he
 go_enter Tryz.func23,Tryz.ntmps23
 go_wp2
 go_loopw [5] (fun i wr => ∃ k : Nat,k ≤ n ∧ i = .int .i64 (k : Int) ∧ Hid (Below w.heap.size w wr)) (fun i _ => n - (intOf i).toNat)
 case atStart => exact ⟨0,Nat.zero_le _,rfl,Below.refl _ _⟩
 case round =>
  obtain ⟨k,hk,rfl,HW⟩ := hrel
  by_cases hlt : k < n
  ·have hbd : Below w.heap.size w wr.drew := HW.out.drew
   have h1 := HA.out.up hbd
   have h2 := HB.out.up hbd
   have l1 : k < rs.length := by rw [h1.hlen]; exact hlt
   have l2 : k < qs.length := by rw [h2.hlen]; exact hlt
   obtain ⟨g1,o1,s1,hi1,hc1⟩ := h1.at k hlt
   obtain ⟨g2,o2,s2,hi2,hc2⟩ := h2.at k hlt
   have hs := q7v rs[k].a rs[k].len rs[k].cap rs[k].ts qs[k].a qs[k].len qs[k].cap qs[k].ts wr.drew (h1.t _ (List.getElem_mem l1)) (h2.t _ (List.getElem_mem l2))
   rw [decide_eq_true (HE.out k l1 l2)] at hs
   have HBD : Hid _ := hbd
   have e1 : ∀ h,rs[k]'h = rs[k]'l1 := fun _ => rfl
   have e2 : ∀ h,qs[k]'h = qs[k]'l2 := fun _ => rfl
   obtain ⟨r1,hr1⟩ : ∃ r,r = rs[k]'l1 := ⟨_,rfl⟩
   obtain ⟨r2,hr2⟩ : ∃ r,r = qs[k]'l2 := ⟨_,rfl⟩
   rw [e1,← hr1] at hc1
   rw [e2,← hr2] at hc2
   rw [← hr1,← hr2] at hs
   clear h1 h2 hbd e1 e2 hr1 hr2
   have hk0 : wr.cell? ⟨g1,o1,s1⟩ = some (.slice r1.a r1.len r1.cap) ∧ wr.cell? ⟨g2,o2,s2⟩ = some (.slice r2.a r2.len r2.cap) := ⟨hc1,hc2⟩
   have hkk : ∀ w',Below wr.drew.heap.size wr.drew w' → w'.cell? ⟨g1,o1,s1⟩ = some (.slice r1.a r1.len r1.cap) ∧ w'.cell? ⟨g2,o2,s2⟩ = some (.slice r2.a r2.len r2.cap) := fun w' h => ⟨qL hc1 h,qL hc2 h⟩
   go_wp2
   go_region_held3 (fun w' => w'.cell? ⟨g1,o1,s1⟩ = some (.slice r1.a r1.len r1.cap) ∧ w'.cell? ⟨g2,o2,s2⟩ = some (.slice r2.a r2.len r2.cap)) (first | exact hk0 | exact hkk _ ‹_›) ((go_at_call 56; refine hs.mono ?_; rintro e w1 ⟨rfl,hb1⟩))
   have HW1 : Hid (Below w.heap.size w w1) := qf HBD.out hb1
   clear hb1 hs hk0 hkk hc1 hc2 hi1 hi2 HBD
   go_wp2
   go_roundw
   case rel => exact ⟨k + 1,by omega,by go_num,HW1⟩
   case measure => simp [intOf]; omega
  ·obtain rfl : k = n := by omega
   go_wp2
   go_ret
   exact ⟨rfl,HW.out⟩
structure ProgC2 (Prg : PrgP) : Prop where
 atoms : ∀ {w F p l0 M},Prg w F p l0 M → Calls Tryz.prog 24 #[pgV p] w fun e w' => ∃ a c F' rs,e = .returned (.slice a M.length c) ∧ RwSl w' a M.length c rs ∧ rs.map (·.ts) = M ∧ Prg w' F' p l0 M ∧ Fr w w' F F'
theorem ProgC2.told {Prg : PrgP} (C : ProgC2 Prg) {w0 w : World} {F : Nat → Prop} {p : Nat} {l0 : List Nat} {M : Mt} (h : PS Prg w0 w F p l0 M) :
  Calls Tryz.prog 24 #[pgV p] w fun e w' => ∃ a c F' rs,e = .returned (.slice a M.length c) ∧ RwSl w' a M.length c rs ∧ rs.map (·.ts) = M ∧ PS Prg w0 w' F' p l0 M ∧ Fr w w' F F' := by
 refine (C.atoms h.prg).mono ?_
 rintro e w' ⟨a,c,F',rs,rfl,h1,h2,h3,fr⟩
 exact ⟨a,c,F',rs,rfl,h1,h2,h.fr h3 fr,fr⟩
theorem qc0 (w : World) (rs : List Pc) (hl : rs.length ≤ 100) (ht : ∀ r ∈ rs,TkSl w r.a r.len r.cap r.ts) : RwSl (w.alloc (.cells (rs.map fun r => Value.slice r.a r.len r.cap).toArray 22)) (some ⟨w.heap.size,0,none⟩) rs.length rs.length rs := by
 refine ⟨rfl,Nat.le_refl _,by unfold maxLen; omega,(fun h => by cases h),fun x hx k hk => ?_,fun r hr => (ht r hr).up (qe _ _)⟩
 injection hx with hx
 subst hx
 rw [qn,Nat.zero_add,qb (MapKept.heap_alloc w _).1]
 simp [hk]
theorem qdn {T : Tr} (h : KT T) : FinP [T.flat] [1] ↔ endB T = true := by
 unfold FinP
 rw [show ([1] : List Nat) = [2 ^ 0] from rfl,q7g,q4Q h (by rfl)]
 exact ((qY T).1 h).symm
theorem qaL : KT (.un (7,0) (.leaf (2,0))) := ⟨⟨rfl,rfl,rfl,rfl⟩,rfl,rfl⟩
theorem qdQ : KT (.un (8,0) (.leaf (2,0))) := ⟨⟨rfl,rfl,rfl,rfl⟩,rfl,rfl⟩
theorem qei : KT (.bin (16,0) (.leaf (2,0)) (.leaf (2,1))) := ⟨⟨rfl,rfl,⟨rfl,rfl⟩,rfl,rfl⟩,rfl,rfl⟩
theorem qef : KT (.bin (17,0) (.un (23,0) (.un (19,0) (.leaf (2,0)))) (.leaf (2,1))) := ⟨⟨rfl,rfl,⟨rfl,rfl,rfl,rfl,rfl,rfl⟩,rfl,rfl⟩,rfl,rfl⟩
theorem qdj : KT (.leaf (0,0)) := ⟨⟨rfl,rfl⟩,rfl,rfl⟩
theorem qdI : KT (.un (6,0) (.leaf (2,0))) := ⟨⟨rfl,rfl,rfl,rfl⟩,rfl,rfl⟩
theorem qdw : KT (.bin (18,0) (.un (19,0) (.leaf (0,0))) (.leaf (2,0))) := ⟨⟨rfl,rfl,⟨rfl,rfl,rfl,rfl⟩,rfl,rfl⟩,rfl,rfl⟩
theorem qaK : needM (.un (7,0) (.leaf (2,0))) [] = some ([1],[[(2,0),(7,0)]]) := by decide +kernel
theorem qdz : needM (.un (8,0) (.leaf (2,0))) [] = some ([1],[[(2,0),(8,0)]]) := by decide +kernel
theorem qep : needM (.bin (16,0) (.leaf (2,0)) (.leaf (2,1))) [] = some ([1],[[(2,0),(2,1),(16,0)]]) := by decide +kernel
theorem qe0 : needM (.bin (17,0) (.un (23,0) (.un (19,0) (.leaf (2,0)))) (.leaf (2,1))) [] = some ([1],[[(2,0),(19,0),(23,0),(2,1),(17,0)]]) := by decide +kernel
theorem bd8 : ¬ BdL [8] [[(2,0),(7,0)],[(4,0)],[((2,0) : Tk)]].length := fun h => absurd (h 8 (by simp) 3 (by decide)) (by decide)
theorem qdC : chkE [(2,0),(9,0)] = 7 := by
 have hn : ¬ IsKer [(2,0),(9,0)] := by
  rintro ⟨T,hw,hp,hk,hf⟩
  have e := q1D hw
  rw [← hf] at e
  have e2 : growT [(2,0),(9,0)] = .un (9,0) (.leaf (2,0)) := rfl
  rw [e2] at e
  subst e
  simp [kerT] at hk
 unfold chkE
 rw [if_neg (by decide),if_neg hn]
theorem ProgC.final1 {Prg : PrgP} (C : ProgC Prg) {w0 w : World} {F : Nat → Prop} {p : Nat} {T : Tr} (h : PS Prg w0 w F p [1] [T.flat]) (hT : Tab64 w0) (hK : KT T) {a : Option Addr} {c : Nat} (hU : US w F a 1 c [1]) {b : Bool} (hb : endB T = b) :
  Calls Tryz.prog 18 #[pgV p,.slice a 1 c] w fun e w' => e = .returned (.bool b) ∧ Below w0.heap.size w0 w' := by
 refine (C.fin a 1 c [1] h.prg (hT.up h.bel) hU (by unfold Sm; decide) (by decide)).mono ?_
 rintro e w' ⟨b',F',rfl,h1,h2,fr⟩
 have : b' = b := by rw [← hb,Bool.eq_iff_iff,h1,qdn hK]
 rw [this]
 exact ⟨rfl,(h.fr h2 fr).bel⟩
theorem ProgC.ended {Prg : PrgP} (C : ProgC Prg) {w : World} {T : Tr} {a : Option Addr} {len cap : Nat} (hK : KT T) (hS : TkSl w a len cap T.flat) (hl : T.flat.length ≤ 2048) {b : Bool} (hb : endB T = b) :
  Calls Tryz.prog 17 #[.slice a len cap] w fun e w' => e = .returned (.tuple #[.bool b,.int .i64 0]) ∧ Below w.heap.size w w' := by
 have hc : chkE T.flat = 0 := q2l.2 ⟨hl,T,hK.wf,hK.np,hK.kr,rfl⟩
 refine (C.ends a len cap T.flat w hS).mono ?_
 rintro e w' ⟨hb1,⟨h1,_⟩ | ⟨S,b',hS2,he,_,rfl,h2⟩⟩
 ·exact absurd hc h1
 ·have : b' = b := by
   rw [← hb,Bool.eq_iff_iff,h2,← q9w [] hK.wf hS2.wf he]
   exact ((qY T).1 hK).symm
  rw [this]
  exact ⟨rfl,hb1⟩
theorem ProgC.notKer {Prg : PrgP} (C : ProgC Prg) {w : World} {ts : List Tk} {a : Option Addr} {len cap E : Nat} (hS : TkSl w a len cap ts) (hB : Tab64 w) (hE : chkE ts = E) (h0 : E ≠ 0) :
  Calls Tryz.prog 13 #[.slice a len cap] w fun e w' => e = .returned (.tuple #[.pointer none,.int .i64 (E : Int)]) ∧ Below w.heap.size w w' := by
 refine (C.new a len cap ts w hS hB).mono ?_
 rintro e w' ⟨hb,⟨h1,rfl⟩ | ⟨S,_,_,hc,_⟩⟩
 ·rw [hE]; exact ⟨rfl,hb⟩
 ·rw [hE] at hc; exact absurd hc h0
theorem q6v {Prg : PrgP} (C : ProgC Prg) (C2 : ProgC2 Prg) (w : World) (hT : Tab64 w) : Calls Tryz.prog 5 #[] w (BR true w) := by
 have HC : Hid (ProgC Prg) := C
 have HC2 : Hid (ProgC2 Prg) := C2
 have HT : Hid (Tab64 w) := hT
 have HOP : Hid (∀ (op : Nat) (z y : Int),z = (op : Int) → y = 100 + (op : Int) → op < 256 → ∀ w',Calls Tryz.prog 22 #[.int .u8 z] w' fun e w'' => e = .returned (.int .i64 y) ∧ w'' = w') := fun op z y hz hy ho w' => by rw [hz,hy]; exact q4L op w' ho
 have hno := fun (p : Nat) w => q3I ⟨p,0,none⟩ w
 clear C C2 hT
 obtain ⟨w0,hw0⟩ : ∃ w0,w0 = w := ⟨_,rfl⟩
 have HB0 : Hid (Below w.heap.size w w0) := by rw [hw0]; exact Below.refl _ _
 conv => arg 4; rw [← hw0]
 clear hw0
 go_enter Tryz.func5,Tryz.ntmps5
 go_wp2_with fail
 refine ((HOP.out 7 7 107 rfl rfl (by decide)) _).mono ?_
 rintro e w' ⟨rfl,hw'⟩
 obtain rfl := hw'.symm
 have tt := qJ [0,107] [(2,0),(7,0)] w0 rfl (by decide) (by decide)
 dsimp only [List.map_cons,List.map_nil,List.length_cons,List.length_nil,Nat.zero_add,Nat.reduceAdd] at tt
 go_wp2_with fail
 refine tt.mono ?_
 rintro e w1 ⟨ta,tac,rfl,ho,hTk,hst⟩
 have HB1 : Hid (Below w.heap.size w w1) := qf HB0.out hst
 clear HB0
 have TA_1 : Hid (TkSl w1 ta 2 tac [(2,0),(7,0)]) := hTk
 clear tt ho hTk hst
 have HBB : Hid (Below w.heap.size w w1) := HB1.out
 have HTB1 : Hid (Tab64 w1) := HT.out.up HB1.out
 have jj := HC.out.made (T := .un (7,0) (.leaf (2,0))) qaL (show TkSl w1 ta 2 tac (.un (7,0) (.leaf (2,0)) : Tr).flat from TA_1.out) (by decide) HTB1.out qaK
 go_wp2_with fail
 refine jj.mono ?_
 rintro e w2 ⟨p,F2,rfl,hP⟩
 have HP_2 : Hid (PS Prg w1 w2 F2 p [1] [[(2,0),(7,0)]]) := hP
 unfold pgV
 clear jj hP
 clear TA_1
 have jj := HC.out.told HP_2.out
 unfold pgV at jj
 go_wp2_with fail
 refine jj.mono ?_
 rintro e w3 ⟨sa,sad,F3,rfl,hU,hP,fr⟩
 have HP_3 : Hid (PS Prg w1 w3 F3 p [1] [[(2,0),(7,0)]]) := hP
 clear jj hP fr HP_2
 have SA_3 : Hid (US w3 F3 sa 1 sad [1]) := hU
 clear hU
 dsimp only [List.length_cons,List.length_nil,Nat.zero_add,Nat.reduceAdd]
 have jj := HC.out.went HP_3.out HTB1.out sa 1 sad [1] 0 SA_3.out (by unfold Sm; decide) (by decide) (bd1 _ (by decide)) (by decide) pk5
 unfold pgV at jj
 go_wp2_with fail
 refine jj.mono ?_
 rintro e w4 ⟨ra,rad,F4,rfl,hU,hP,fr⟩
 clear SA_3
 have HP_4 : Hid (PS Prg w1 w4 F4 p [1] [[(2,0),(7,0)],[(4,0)],[(2,0)]]) := hP
 clear jj hP fr HP_3
 have RA_4 : Hid (US w4 F4 ra 1 rad [6]) := hU
 clear hU
 dsimp only [List.length_cons,List.length_nil,Nat.zero_add,Nat.reduceAdd]
 have jj := HC2.out.told HP_4.out
 unfold pgV at jj
 go_wp2_with fail
 refine jj.mono ?_
 rintro e w5 ⟨la,lc,F5,rs,rfl,hR,hrs,hP,fr⟩
 have RA_5 : Hid (US w5 F5 ra 1 rad [6]) := RA_4.out.fr fr
 clear RA_4
 have HP_5 : Hid (PS Prg w1 w5 F5 p [1] [[(2,0),(7,0)],[(4,0)],[(2,0)]]) := hP
 clear jj hP fr HP_4
 have HRS : Hid (rs.map (·.ts) = [[(2,0),(7,0)],[(4,0)],[(2,0)]]) := hrs
 have HB5 : Hid (Below w.heap.size w w5) := qf HB1.out HP_5.out.bel
 have RW_5 : Hid (RwSl w5 la 3 lc rs) := hR
 clear hR hrs
 dsimp only [List.length_cons,List.length_nil,Nat.zero_add,Nat.reduceAdd]
 go_wp2_with fail
 refine ((HOP.out 7 7 107 rfl rfl (by decide)) _).mono ?_
 rintro e w' ⟨rfl,hw'⟩
 obtain rfl := hw'.symm
 have tt := qJ [0,107] [(2,0),(7,0)] w5 rfl (by decide) (by decide)
 dsimp only [List.map_cons,List.map_nil,List.length_cons,List.length_nil,Nat.zero_add,Nat.reduceAdd] at tt
 go_wp2_with fail
 refine tt.mono ?_
 rintro e w6 ⟨tb,tbc,rfl,ho,hTk,hst⟩
 have RA_6 : Hid (US w6 F5 ra 1 rad [6]) := RA_5.out.up hst
 clear RA_5
 have RW_6 : Hid (RwSl w6 la 3 lc rs) := RW_5.out.up hst
 clear RW_5
 have HP_6 : Hid (PS Prg w1 w6 F5 p [1] [[(2,0),(7,0)],[(4,0)],[(2,0)]]) := HP_5.out.up HC.out hst
 clear HP_5
 have HB6 : Hid (Below w.heap.size w w6) := qf HB5.out hst
 clear HB5
 have TB_6 : Hid (TkSl w6 tb 2 tbc [(2,0),(7,0)]) := hTk
 clear tt ho hTk hst
 go_wp2_with fail
 refine ((HOP.out 4 4 104 rfl rfl (by decide)) _).mono ?_
 rintro e w' ⟨rfl,hw'⟩
 obtain rfl := hw'.symm
 have tt := qJ [104] [(4,0)] w6 rfl (by decide) (by decide)
 dsimp only [List.map_cons,List.map_nil,List.length_cons,List.length_nil,Nat.zero_add,Nat.reduceAdd] at tt
 go_wp2_with fail
 refine tt.mono ?_
 rintro e w7 ⟨tc,tcc,rfl,ho,hTk,hst⟩
 have RA_7 : Hid (US w7 F5 ra 1 rad [6]) := RA_6.out.up hst
 clear RA_6
 have RW_7 : Hid (RwSl w7 la 3 lc rs) := RW_6.out.up hst
 clear RW_6
 have HP_7 : Hid (PS Prg w1 w7 F5 p [1] [[(2,0),(7,0)],[(4,0)],[(2,0)]]) := HP_6.out.up HC.out hst
 clear HP_6
 have TB_7 : Hid (TkSl w7 tb 2 tbc [(2,0),(7,0)]) := TB_6.out.up hst
 clear TB_6
 have HB7 : Hid (Below w.heap.size w w7) := qf HB6.out hst
 clear HB6
 have TC_7 : Hid (TkSl w7 tc 1 tcc [(4,0)]) := hTk
 clear tt ho hTk hst
 have tt := qJ [0] [(2,0)] w7 rfl (by decide) (by decide)
 dsimp only [List.map_cons,List.map_nil,List.length_cons,List.length_nil,Nat.zero_add,Nat.reduceAdd] at tt
 go_wp2_with fail
 refine tt.mono ?_
 rintro e w8 ⟨td,tdc,rfl,ho,hTk,hst⟩
 have RA_8 : Hid (US w8 F5 ra 1 rad [6]) := RA_7.out.up hst
 clear RA_7
 have RW_8 : Hid (RwSl w8 la 3 lc rs) := RW_7.out.up hst
 clear RW_7
 have HP_8 : Hid (PS Prg w1 w8 F5 p [1] [[(2,0),(7,0)],[(4,0)],[(2,0)]]) := HP_7.out.up HC.out hst
 clear HP_7
 have TB_8 : Hid (TkSl w8 tb 2 tbc [(2,0),(7,0)]) := TB_7.out.up hst
 clear TB_7
 have TC_8 : Hid (TkSl w8 tc 1 tcc [(4,0)]) := TC_7.out.up hst
 clear TC_7
 have HB8 : Hid (Below w.heap.size w w8) := qf HB7.out hst
 clear HB7
 have TD_8 : Hid (TkSl w8 td 1 tdc [(2,0)]) := hTk
 clear tt ho hTk hst
 have hq : RwSl (w8.alloc (.cells #[.slice tb 2 tbc,.slice tc 1 tcc,.slice td 1 tdc] 22)) (some ⟨w8.heap.size,0,none⟩) 3 3 [⟨tb,2,tbc,[(2,0),(7,0)]⟩,⟨tc,1,tcc,[(4,0)]⟩,⟨td,1,tdc,[(2,0)]⟩] := qc0 w8 [⟨tb,2,tbc,[(2,0),(7,0)]⟩,⟨tc,1,tcc,[(4,0)]⟩,⟨td,1,tdc,[(2,0)]⟩] (by simp) (fun r hr => by
  rcases List.mem_cons.1 hr with rfl | hr
  ·exact TB_8.out
  ·rcases List.mem_cons.1 hr with rfl | hr
   ·exact TC_8.out
   ·rcases List.mem_cons.1 hr with rfl | hr
    ·exact TD_8.out
    ·cases hr)
 have hn : Below w8.heap.size w8 (w8.alloc (.cells #[.slice tb 2 tbc,.slice tc 1 tcc,.slice td 1 tdc] 22)) := qe _ _
 have jj := q6u la 3 lc rs _ 3 [⟨tb,2,tbc,[(2,0),(7,0)]⟩,⟨tc,1,tcc,[(4,0)]⟩,⟨td,1,tdc,[(2,0)]⟩] _ (RW_8.out.up hn) hq (by rw [HRS.out]; rfl)
 have HN : Hid _ := hn
 clear hq hn
 go_wp2_with fail
 refine jj.mono ?_
 rintro e w9 ⟨rfl,hb⟩
 have hst : Below w8.heap.size w8 w9 := qf HN.out hb
 have RA_9 : Hid (US w9 F5 ra 1 rad [6]) := RA_8.out.up hst
 clear RA_8
 have RW_9 : Hid (RwSl w9 la 3 lc rs) := RW_8.out.up hst
 clear RW_8
 have HP_9 : Hid (PS Prg w1 w9 F5 p [1] [[(2,0),(7,0)],[(4,0)],[(2,0)]]) := HP_8.out.up HC.out hst
 clear HP_8
 have TB_9 : Hid (TkSl w9 tb 2 tbc [(2,0),(7,0)]) := TB_8.out.up hst
 clear TB_8
 have TC_9 : Hid (TkSl w9 tc 1 tcc [(4,0)]) := TC_8.out.up hst
 clear TC_8
 have TD_9 : Hid (TkSl w9 td 1 tdc [(2,0)]) := TD_8.out.up hst
 clear TD_8
 have HB9 : Hid (Below w.heap.size w w9) := qf HB8.out hst
 clear HB8
 clear jj hb hst HN
 clear RW_9
 clear TB_9
 clear TC_9
 clear TD_9
 have hU8 : US (w9.alloc (.cells #[.int .u64 8] 52)) F5 (some ⟨w9.heap.size,0,none⟩) 1 1 [8] := US.lit HC.out HP_9.out [8] (by decide)
 have hP8 := HP_9.out.up HC.out (qe w9 (.cells #[.int .u64 8] 52))
 have hR8 := RA_9.out.up (qe w9 (.cells #[.int .u64 8] 52))
 have HP8 : Hid _ := hP8
 have HR8 : Hid _ := hR8
 have jj := HC.out.arg _ 1 1 [8] 0 hP8.prg hU8 (by unfold Sm; decide) (by decide) bd8 (by decide)
 clear hU8 hP8 hR8
 unfold pgV at jj
 go_wp2_with fail
 refine jj.mono ?_
 rintro e w10 ⟨F10,qx,qxd,rfl,hUx,hPx,fr⟩
 have HPx : Hid (PS Prg w1 w10 F10 p [1] [[(2,0),(7,0)],[(4,0)],[(2,0)]]) := HP8.out.fr hPx fr
 have RA_10 : Hid (USl w10 ra 1 rad [6]) := (HR8.out.fr fr).sl
 have HB10 : Hid (Below w.heap.size w w10) := qf HBB.out HPx.out.bel
 clear jj hUx hPx fr HP8 HR8 HPx RA_9 HP_9 HB9 HRS HTB1 HBB
 go_wp2_with fail
 refine ((HOP.out 19 19 119 rfl rfl (by decide)) _).mono ?_
 rintro e w' ⟨rfl,hw'⟩
 obtain rfl := hw'.symm
 go_wp2_with fail
 refine ((HOP.out 23 23 123 rfl rfl (by decide)) _).mono ?_
 rintro e w' ⟨rfl,hw'⟩
 obtain rfl := hw'.symm
 go_wp2_with fail
 refine ((HOP.out 17 17 117 rfl rfl (by decide)) _).mono ?_
 rintro e w' ⟨rfl,hw'⟩
 obtain rfl := hw'.symm
 have tt := qJ [0,119,123,1,117] [(2,0),(19,0),(23,0),(2,1),(17,0)] w10 rfl (by decide) (by decide)
 dsimp only [List.map_cons,List.map_nil,List.length_cons,List.length_nil,Nat.zero_add,Nat.reduceAdd] at tt
 go_wp2_with fail
 refine tt.mono ?_
 rintro e w11 ⟨te,tec,rfl,ho,hTk,hst⟩
 have RA_11 : Hid (USl w11 ra 1 rad [6]) := RA_10.out.up hst
 clear RA_10
 have HB11 : Hid (Below w.heap.size w w11) := qf HB10.out hst
 clear HB10
 have TE_11 : Hid (TkSl w11 te 5 tec [(2,0),(19,0),(23,0),(2,1),(17,0)]) := hTk
 clear tt ho hTk hst
 have HTB11 : Hid (Tab64 w11) := HT.out.up HB11.out
 have jj := HC.out.made (T := .bin (17,0) (.un (23,0) (.un (19,0) (.leaf (2,0)))) (.leaf (2,1))) qef (show TkSl w11 te 5 tec (.bin (17,0) (.un (23,0) (.un (19,0) (.leaf (2,0)))) (.leaf (2,1)) : Tr).flat from TE_11.out) (by decide) HTB11.out qe0
 go_wp2_with fail
 refine jj.mono ?_
 rintro e w12 ⟨q,F12,rfl,hP⟩
 have HP_12 : Hid (PS Prg w11 w12 F12 q [1] [[(2,0),(19,0),(23,0),(2,1),(17,0)]]) := hP
 unfold pgV
 clear jj hP
 have RAB : Hid (USl w11 ra 1 rad [6]) := RA_11.out
 have HBB : Hid (Below w.heap.size w w11) := HB11.out
 clear RA_11 HB11 TE_11
 have hW3 : US (w12.alloc (.cells #[.int .u64 1,.int .u64 0,.int .u64 0] 52)) F12 (some ⟨w12.heap.size,0,none⟩) 3 3 [1,0,0] := US.lit HC.out HP_12.out [1,0,0] (by decide)
 have HPW : Hid _ := HP_12.out.up HC.out (qe w12 (.cells #[.int .u64 1,.int .u64 0,.int .u64 0] 52))
 obtain ⟨wv,hwv⟩ : ∃ a,a = (some ⟨w12.heap.size,0,none⟩ : Option Addr) := ⟨_,rfl⟩
 have HW3 : Hid _ := hW3
 clear hW3 HP_12
 go_wp2
 rw [← hwv] at HW3 ⊢
 clear hwv
 go_loopw [11] (fun v11 wr => ∃ k : Nat,k ≤ 3 ∧ v11 = .int .i64 (k : Int) ∧ ∃ F,Hid (PS Prg w11 wr F q [1] [[(2,0),(19,0),(23,0),(2,1),(17,0)]]) ∧ Hid (US wr F wv 3 3 [1,0,0])) (fun v11 _ => 3 - (intOf v11).toNat)
 case atStart => exact ⟨0,Nat.zero_le _,rfl,F12,HPW,HW3⟩
 case round =>
  obtain ⟨j,hj,rfl,FL,HPL,HWL⟩ := hrel
  clear HPW HW3
  by_cases hlt : j < 3
  ·have hcw := q5g HWL.out.sl (k := j) hlt
   have hiw := fun w' => HWL.out.sl.idx 3 j w' hlt (by decide)
   obtain ⟨L,hst,hLw,hl1⟩ : ∃ L,stepM fuelN (j + 1) [1] [] [[(2,0),(19,0),(23,0),(2,1),(17,0)]] = some (L,[[(2,0),(19,0),(23,0),(2,1),(17,0)]]) ∧ L = [[1,0,0].getD j 0] ∧ L.length = 1 := by
    match j,hlt with
    | 0,_ => exact ⟨[1],pk6,rfl,rfl⟩
    | 1,_ => exact ⟨[0],pk7,rfl,rfl⟩
    | 2,_ => exact ⟨[0],pk8,rfl,rfl⟩
   have jj := HC.out.told HPL.out
   unfold pgV at jj
   go_wp2_with fail
   refine jj.mono ?_
   rintro e x1 ⟨sq,sqd,FA,rfl,hU,hP,fr⟩
   have HPA : Hid _ := hP
   have HUA : Hid _ := hU
   have HWA : Hid _ := HWL.out.fr fr
   have j2 := HC.out.went HPA.out HTB11.out sq 1 sqd [1] (j + 1) HUA.out (by unfold Sm; decide) (by decide) (bd1 _ (by decide)) (by omega) hst
   have hw8 : IntKind.u8.wrap ((j : Int) + 1) = ((j + 1 : Nat) : Int) := by rw [IntKind.wrap_u8]; omega
   clear jj hU hP fr HPL HWL hcw hst
   unfold pgV at j2
   dsimp only [List.length_cons,List.length_nil,Nat.zero_add,Nat.reduceAdd]
   go_wp2_with fail
   refine j2.mono ?_
   rintro e x2 ⟨sr,srd,FB,rfl,hU,hP,fr⟩
   rw [hl1] at hU ⊢
   have HPB : Hid _ := hP
   have HUB : Hid _ := hU
   have HWB : Hid _ := HWA.out.fr fr
   have hcw := q5g HWB.out.sl (k := j) hlt
   clear j2 hU hP fr HPA HUA HWA hw8
   have hn : Below x2.heap.size x2 (x2.alloc (.cells #[.int .u64 (([1,0,0].getD j 0 : Nat) : Int)] 52)) := qe _ _
   have l0 : USl (x2.alloc (.cells #[.int .u64 (([1,0,0].getD j 0 : Nat) : Int)] 52)) (some ⟨x2.heap.size,0,none⟩) 1 1 [[1,0,0].getD j 0] := q1m [[1,0,0].getD j 0] x2 (by simp)
   have j3 := q1M sr 1 srd L _ 1 1 [[1,0,0].getD j 0] _ (HUB.out.up hn).sl l0
   rw [decide_eq_true hLw] at j3
   have HN : Hid _ := hn
   clear hn l0 hLw hl1
   generalize (([1,0,0] : List Nat).getD j 0) = y at *
   go_wp2_with fail
   refine j3.mono ?_
   rintro e x3 ⟨rfl,hb⟩
   have hst3 := qf HN.out hb
   have HPC : Hid _ := HPB.out.up HC.out hst3
   have HWC : Hid _ := HWB.out.up hst3
   clear j3 hb hst3 HN HPB HUB HWB hcw hiw
   go_wp2
   go_roundw
   case rel => exact ⟨j + 1,by omega,by go_num,FB,HPC,HWC⟩
   case measure => simp [intOf]; omega
  ·obtain rfl : j = 3 := by omega
   have RA_13 : Hid (USl wr ra 1 rad [6]) := RAB.out.up HPL.out.bel
   have HB13 : Hid (Below w.heap.size w wr) := qf HBB.out HPL.out.bel
   clear HPL HWL RAB HBB HTB11
   generalize wr = w13 at *
   go_wp2_with fail
   refine ((HOP.out 8 8 108 rfl rfl (by decide)) _).mono ?_
   rintro e w' ⟨rfl,hw'⟩
   obtain rfl := hw'.symm
   have tt := qJ [0,108] [(2,0),(8,0)] w13 rfl (by decide) (by decide)
   dsimp only [List.map_cons,List.map_nil,List.length_cons,List.length_nil,Nat.zero_add,Nat.reduceAdd] at tt
   go_wp2_with fail
   refine tt.mono ?_
   rintro e w14 ⟨tf,tfc,rfl,ho,hTk,hst⟩
   have RA_14 : Hid (USl w14 ra 1 rad [6]) := RA_13.out.up hst
   clear RA_13
   have HB14 : Hid (Below w.heap.size w w14) := qf HB13.out hst
   clear HB13
   have TF_14 : Hid (TkSl w14 tf 2 tfc [(2,0),(8,0)]) := hTk
   clear tt ho hTk hst
   go_wp2_with fail
   refine ((HOP.out 7 7 107 rfl rfl (by decide)) _).mono ?_
   rintro e w' ⟨rfl,hw'⟩
   obtain rfl := hw'.symm
   have tt := qJ [0,107] [(2,0),(7,0)] w14 rfl (by decide) (by decide)
   dsimp only [List.map_cons,List.map_nil,List.length_cons,List.length_nil,Nat.zero_add,Nat.reduceAdd] at tt
   go_wp2_with fail
   refine tt.mono ?_
   rintro e w15 ⟨tg,tgc,rfl,ho,hTk,hst⟩
   have RA_15 : Hid (USl w15 ra 1 rad [6]) := RA_14.out.up hst
   clear RA_14
   have TF_15 : Hid (TkSl w15 tf 2 tfc [(2,0),(8,0)]) := TF_14.out.up hst
   clear TF_14
   have HB15 : Hid (Below w.heap.size w w15) := qf HB14.out hst
   clear HB14
   have TG_15 : Hid (TkSl w15 tg 2 tgc [(2,0),(7,0)]) := hTk
   clear tt ho hTk hst
   go_wp2_with fail
   refine ((HOP.out 16 16 116 rfl rfl (by decide)) _).mono ?_
   rintro e w' ⟨rfl,hw'⟩
   obtain rfl := hw'.symm
   have tt := qJ [0,1,116] [(2,0),(2,1),(16,0)] w15 rfl (by decide) (by decide)
   dsimp only [List.map_cons,List.map_nil,List.length_cons,List.length_nil,Nat.zero_add,Nat.reduceAdd] at tt
   go_wp2_with fail
   refine tt.mono ?_
   rintro e w16 ⟨th,thc,rfl,ho,hTk,hst⟩
   have RA_16 : Hid (USl w16 ra 1 rad [6]) := RA_15.out.up hst
   clear RA_15
   have TF_16 : Hid (TkSl w16 tf 2 tfc [(2,0),(8,0)]) := TF_15.out.up hst
   clear TF_15
   have TG_16 : Hid (TkSl w16 tg 2 tgc [(2,0),(7,0)]) := TG_15.out.up hst
   clear TG_15
   have HB16 : Hid (Below w.heap.size w w16) := qf HB15.out hst
   clear HB15
   have TH_16 : Hid (TkSl w16 th 3 thc [(2,0),(2,1),(16,0)]) := hTk
   clear tt ho hTk hst
   have hq : RwSl (w16.alloc (.cells #[.slice tf 2 tfc,.slice tg 2 tgc,.slice th 3 thc] 22)) (some ⟨w16.heap.size,0,none⟩) 3 3 [⟨tf,2,tfc,[(2,0),(8,0)]⟩,⟨tg,2,tgc,[(2,0),(7,0)]⟩,⟨th,3,thc,[(2,0),(2,1),(16,0)]⟩] := qc0 w16 [⟨tf,2,tfc,[(2,0),(8,0)]⟩,⟨tg,2,tgc,[(2,0),(7,0)]⟩,⟨th,3,thc,[(2,0),(2,1),(16,0)]⟩] (by simp) (fun r hr => by
    rcases List.mem_cons.1 hr with rfl | hr
    ·exact TF_16.out
    ·rcases List.mem_cons.1 hr with rfl | hr
     ·exact TG_16.out
     ·rcases List.mem_cons.1 hr with rfl | hr
      ·exact TH_16.out
      ·cases hr)
   have hn : Below w16.heap.size w16 (w16.alloc (.cells #[.slice tf 2 tfc,.slice tg 2 tgc,.slice th 3 thc] 22)) := qe _ _
   have RAC : Hid (USl (w16.alloc (.cells #[.slice tf 2 tfc,.slice tg 2 tgc,.slice th 3 thc] 22)) ra 1 rad [6]) := RA_16.out.up hn
   have HBC : Hid (Below w.heap.size w (w16.alloc (.cells #[.slice tf 2 tfc,.slice tg 2 tgc,.slice th 3 thc] 22))) := qf HB16.out hn
   have HQ : Hid _ := hq
   clear hq hn RA_16 TF_16 TG_16 TH_16 HB16
   go_wp2
   obtain ⟨fa,hfa⟩ : ∃ a,a = (some ⟨w16.heap.size,0,none⟩ : Option Addr) := ⟨_,rfl⟩
   rw [← hfa] at HQ ⊢
   obtain ⟨wC,hwC⟩ : ∃ a,a = w16.alloc (.cells #[.slice tf 2 tfc,.slice tg 2 tgc,.slice th 3 thc] 22) := ⟨_,rfl⟩
   rw [← hwC] at HQ RAC HBC ⊢
   clear hfa hwC
   have HTC : Hid (Tab64 wC) := HT.out.up HBC.out
   go_loopw [15] (fun v15 wr => ∃ k : Nat,k ≤ 3 ∧ v15 = .int .i64 (k : Int) ∧ Hid (Below wC.heap.size wC wr)) (fun v15 _ => 3 - (intOf v15).toNat)
   case atStart => exact ⟨0,Nat.zero_le _,rfl,Below.refl _ _⟩
   case round =>
    obtain ⟨j,hj,rfl,HWL⟩ := hrel
    by_cases hlt : j < 3
    ·obtain ⟨g1,o1,s1,hi1,hc1⟩ := (HQ.out.up HWL.out).at j hlt
     obtain ⟨r,hr⟩ : ∃ r,r = ([⟨tf,2,tfc,[(2,0),(8,0)]⟩,⟨tg,2,tgc,[(2,0),(7,0)]⟩,⟨th,3,thc,[(2,0),(2,1),(16,0)]⟩] : List Pc)[j]'(by simpa using hlt) := ⟨_,rfl⟩
     have hTr := (HQ.out.up HWL.out).t r (by rw [hr]; exact List.getElem_mem _)
     rw [show ([⟨tf,2,tfc,[(2,0),(8,0)]⟩,⟨tg,2,tgc,[(2,0),(7,0)]⟩,⟨th,3,thc,[(2,0),(2,1),(16,0)]⟩] : List Pc)[j]'(by simpa using hlt) = r from hr.symm] at hc1
     obtain ⟨R,bE,hK,hfl,hnd,hbe,hbo⟩ : ∃ (R : Tr) (bE : Bool),KT R ∧ r.ts = R.flat ∧ needM R [] = some ([1],[R.flat]) ∧ endB R = bE ∧ ((j = 0 ∧ bE = true) ∨ (j = 1 ∧ bE = false) ∨ (j = 2 ∧ bE = true)) := by
      match j,hlt,hr with
      | 0,_,hr => exact ⟨.un (8,0) (.leaf (2,0)),true,qdQ,by rw [hr]; rfl,qdz,rfl,by simp⟩
      | 1,_,hr => exact ⟨.un (7,0) (.leaf (2,0)),false,qaL,by rw [hr]; rfl,qaK,rfl,by simp⟩
      | 2,_,hr => exact ⟨.bin (16,0) (.leaf (2,0)) (.leaf (2,1)),true,qei,by rw [hr]; rfl,qep,rfl,by simp⟩
     rw [hfl] at hTr
     have hln : R.flat.length ≤ 2048 := by
      have h3 : r.ts.length ≤ 3 := by
       match j,hlt,hr with
       | 0,_,hr => rw [hr]; simp
       | 1,_,hr => rw [hr]; simp
       | 2,_,hr => rw [hr]; simp
      rw [← hfl]; omega
     have jj := HC.out.made hK hTr hln (HTC.out.up HWL.out) hnd
     have HBE : Hid (endB R = bE) := hbe
     have HK : Hid (KT R) := hK
     clear hr hfl hnd hln hTr hbe hK
     go_wp2_with fail
     refine jj.mono ?_
     rintro e x1 ⟨p1,FA,rfl,hP⟩
     have HPA : Hid _ := hP
     have j2 := HC.out.told HPA.out
     clear jj hP
     unfold pgV at j2 ⊢
     go_wp2_with fail
     refine j2.mono ?_
     rintro e x2 ⟨sq,sqd,FB,rfl,hU,hP,fr⟩
     have j3 := HC.out.final1 (T := R) hP (HTC.out.up HWL.out) HK.out hU HBE.out
     have HBX : Hid (Below wC.heap.size wC wr) := HWL.out
     clear j2 hU hP fr HPA HWL
     unfold pgV at j3
     dsimp only [List.length_cons,List.length_nil,Nat.zero_add,Nat.reduceAdd]
     go_wp2_with fail
     refine j3.mono ?_
     rintro e x3 ⟨rfl,hb3⟩
     have HW3 : Hid (Below wC.heap.size wC x3) := qf HBX.out hb3
     have HBO : Hid _ := hbo
     clear j3 hb3 HBX hi1 hc1 hbo HBE
     rcases HBO.out with ⟨rfl,rfl⟩ | ⟨rfl,rfl⟩ | ⟨rfl,rfl⟩
     ·go_wp2
      go_roundw
      case rel => exact ⟨1,by omega,rfl,HW3⟩
      case measure => simp [intOf]
     ·go_wp2
      go_roundw
      case rel => exact ⟨2,by omega,rfl,HW3⟩
      case measure => simp [intOf]
     ·go_wp2
      go_roundw
      case rel => exact ⟨3,by omega,rfl,HW3⟩
      case measure => simp [intOf]
    ·obtain rfl : j = 3 := by omega
     have RA_17 : Hid (USl wr ra 1 rad [6]) := RAC.out.up HWL.out
     have HB17 : Hid (Below w.heap.size w wr) := qf HBC.out HWL.out
     clear HWL RAC HBC HQ HTC
     generalize wr = w17 at *
     go_wp2_with fail
     refine ((HOP.out 0 0 100 rfl rfl (by decide)) _).mono ?_
     rintro e w' ⟨rfl,hw'⟩
     obtain rfl := hw'.symm
     have tt := qJ [100] [(0,0)] w17 rfl (by decide) (by decide)
     dsimp only [List.map_cons,List.map_nil,List.length_cons,List.length_nil,Nat.zero_add,Nat.reduceAdd] at tt
     go_wp2_with fail
     refine tt.mono ?_
     rintro e w18 ⟨ti,tic,rfl,ho,hTk,hst⟩
     have RA_18 : Hid (USl w18 ra 1 rad [6]) := RA_17.out.up hst
     clear RA_17
     have HB18 : Hid (Below w.heap.size w w18) := qf HB17.out hst
     clear HB17
     have TI_18 : Hid (TkSl w18 ti 1 tic [(0,0)]) := hTk
     clear tt ho hTk hst
     have jj := HC.out.ended (T := .leaf (0,0)) qdj (show TkSl w18 ti 1 tic (.leaf (0,0) : Tr).flat from TI_18.out) (by decide) (b := true) rfl
     go_wp2_with fail
     refine jj.mono ?_
     rintro e w19 ⟨rfl,hst⟩
     have RA_19 : Hid (USl w19 ra 1 rad [6]) := RA_18.out.up hst
     clear RA_18
     have TI_19 : Hid (TkSl w19 ti 1 tic [(0,0)]) := TI_18.out.up hst
     clear TI_18
     have HB19 : Hid (Below w.heap.size w w19) := qf HB18.out hst
     clear HB18
     clear jj hst
     clear TI_19
     go_wp2_with fail
     refine ((HOP.out 6 6 106 rfl rfl (by decide)) _).mono ?_
     rintro e w' ⟨rfl,hw'⟩
     obtain rfl := hw'.symm
     have tt := qJ [0,106] [(2,0),(6,0)] w19 rfl (by decide) (by decide)
     dsimp only [List.map_cons,List.map_nil,List.length_cons,List.length_nil,Nat.zero_add,Nat.reduceAdd] at tt
     go_wp2_with fail
     refine tt.mono ?_
     rintro e w20 ⟨tj,tjc,rfl,ho,hTk,hst⟩
     have RA_20 : Hid (USl w20 ra 1 rad [6]) := RA_19.out.up hst
     clear RA_19
     have HB20 : Hid (Below w.heap.size w w20) := qf HB19.out hst
     clear HB19
     have TJ_20 : Hid (TkSl w20 tj 2 tjc [(2,0),(6,0)]) := hTk
     clear tt ho hTk hst
     have jj := HC.out.ended (T := .un (6,0) (.leaf (2,0))) qdI (show TkSl w20 tj 2 tjc (.un (6,0) (.leaf (2,0)) : Tr).flat from TJ_20.out) (by decide) (b := true) rfl
     go_wp2_with fail
     refine jj.mono ?_
     rintro e w21 ⟨rfl,hst⟩
     have RA_21 : Hid (USl w21 ra 1 rad [6]) := RA_20.out.up hst
     clear RA_20
     have TJ_21 : Hid (TkSl w21 tj 2 tjc [(2,0),(6,0)]) := TJ_20.out.up hst
     clear TJ_20
     have HB21 : Hid (Below w.heap.size w w21) := qf HB20.out hst
     clear HB20
     clear jj hst
     clear TJ_21
     go_wp2_with fail
     refine ((HOP.out 0 0 100 rfl rfl (by decide)) _).mono ?_
     rintro e w' ⟨rfl,hw'⟩
     obtain rfl := hw'.symm
     go_wp2_with fail
     refine ((HOP.out 19 19 119 rfl rfl (by decide)) _).mono ?_
     rintro e w' ⟨rfl,hw'⟩
     obtain rfl := hw'.symm
     go_wp2_with fail
     refine ((HOP.out 18 18 118 rfl rfl (by decide)) _).mono ?_
     rintro e w' ⟨rfl,hw'⟩
     obtain rfl := hw'.symm
     have tt := qJ [100,119,0,118] [(0,0),(19,0),(2,0),(18,0)] w21 rfl (by decide) (by decide)
     dsimp only [List.map_cons,List.map_nil,List.length_cons,List.length_nil,Nat.zero_add,Nat.reduceAdd] at tt
     go_wp2_with fail
     refine tt.mono ?_
     rintro e w22 ⟨tk,tkc,rfl,ho,hTk,hst⟩
     have RA_22 : Hid (USl w22 ra 1 rad [6]) := RA_21.out.up hst
     clear RA_21
     have HB22 : Hid (Below w.heap.size w w22) := qf HB21.out hst
     clear HB21
     have TK_22 : Hid (TkSl w22 tk 4 tkc [(0,0),(19,0),(2,0),(18,0)]) := hTk
     clear tt ho hTk hst
     have jj := HC.out.ended (T := .bin (18,0) (.un (19,0) (.leaf (0,0))) (.leaf (2,0))) qdw (show TkSl w22 tk 4 tkc (.bin (18,0) (.un (19,0) (.leaf (0,0))) (.leaf (2,0)) : Tr).flat from TK_22.out) (by decide) (b := true) rfl
     go_wp2_with fail
     refine jj.mono ?_
     rintro e w23 ⟨rfl,hst⟩
     have RA_23 : Hid (USl w23 ra 1 rad [6]) := RA_22.out.up hst
     clear RA_22
     have TK_23 : Hid (TkSl w23 tk 4 tkc [(0,0),(19,0),(2,0),(18,0)]) := TK_22.out.up hst
     clear TK_22
     have HB23 : Hid (Below w.heap.size w w23) := qf HB22.out hst
     clear HB22
     clear jj hst
     clear TK_23
     go_wp2_with fail
     refine ((HOP.out 9 9 109 rfl rfl (by decide)) _).mono ?_
     rintro e w' ⟨rfl,hw'⟩
     obtain rfl := hw'.symm
     have tt := qJ [0,109] [(2,0),(9,0)] w23 rfl (by decide) (by decide)
     dsimp only [List.map_cons,List.map_nil,List.length_cons,List.length_nil,Nat.zero_add,Nat.reduceAdd] at tt
     go_wp2_with fail
     refine tt.mono ?_
     rintro e w24 ⟨tl,tlc,rfl,ho,hTk,hst⟩
     have RA_24 : Hid (USl w24 ra 1 rad [6]) := RA_23.out.up hst
     clear RA_23
     have HB24 : Hid (Below w.heap.size w w24) := qf HB23.out hst
     clear HB23
     have TL_24 : Hid (TkSl w24 tl 2 tlc [(2,0),(9,0)]) := hTk
     clear tt ho hTk hst
     have jj := HC.out.notKer TL_24.out (HT.out.up HB24.out) qdC (by decide)
     go_wp2_with fail
     refine jj.mono ?_
     rintro e w25 ⟨rfl,hst⟩
     have RA_25 : Hid (USl w25 ra 1 rad [6]) := RA_24.out.up hst
     clear RA_24
     have TL_25 : Hid (TkSl w25 tl 2 tlc [(2,0),(9,0)]) := TL_24.out.up hst
     clear TL_24
     have HB25 : Hid (Below w.heap.size w w25) := qf HB24.out hst
     clear HB24
     clear jj hst
     clear TL_25
     have jj := q3C HC.out w25 (HT.out.up HB25.out)
     go_wp2_with fail
     refine jj.mono ?_
     rintro e w26 ⟨rfl,hst⟩
     have RA_26 : Hid (USl w26 ra 1 rad [6]) := RA_25.out.up hst
     clear RA_25
     have HB26 : Hid (Below w.heap.size w w26) := qf HB25.out hst
     clear HB25
     clear jj hst
     have hn : Below w26.heap.size w26 (w26.alloc (.cells #[.int .u64 6] 52)) := qe _ _
     have l0 : USl (w26.alloc (.cells #[.int .u64 6] 52)) (some ⟨w26.heap.size,0,none⟩) 1 1 [6] := q1m [6] w26 (by decide)
     have jj := q1M ra 1 rad [6] _ 1 1 [6] _ (RA_26.out.up hn) l0
     rw [decide_eq_true rfl] at jj
     have HN : Hid _ := hn
     clear hn l0
     go_wp2_with fail
     refine jj.mono ?_
     rintro e w27 ⟨rfl,hb⟩
     have HF : Hid (Below w.heap.size w w27) := qf (qf HB26.out HN.out) hb
     clear jj hb HN
     go_wp2
     go_ret
     exact ⟨rfl,HF.out⟩
end Go.Proofs.YtejekdenpefoiaaGreatDoor
