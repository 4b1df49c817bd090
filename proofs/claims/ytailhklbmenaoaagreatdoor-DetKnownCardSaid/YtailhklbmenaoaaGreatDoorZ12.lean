/- Texts of the proof, put together: what it uses. -/
import Derived.Laws.Bits64b
import Derived.Lib.AppendZerosOnto
import Derived.Lib.LazyBuf
import Derived.Test.YtailhklbmenaoaaGreatDoorZ03
import Derived.Test.YtailhklbmenaoaaGreatDoorZ07
import Derived.Test.YtailhklbmenaoaaGreatDoorZ08
import Derived.Test.YtailhklbmenaoaaGreatDoorZ09
import Derived.Test.YtailhklbmenaoaaGreatDoorZ10
import Derived.Test.YtailhklbmenaoaaGreatDoorZ11
set_option maxRecDepth 100000
set_option maxHeartbeats 16000000
namespace Go.Proofs.YtailhklbmenaoaaGreatDoor
open Go.RowKit Go.Maps
open Go.Sort (swp PermIn SortedIn xorNextN bitsLen)
def XB (w : World) (rb X : Nat) : Prop := w.heap[rb]? = some (.cells #[.int .u64 (X : Int)] 197 (0,0))
theorem XB.ne {w : World} {g rb X : Nat} {d : Array Int} {t : List Int} (h : XB w rb X) (k : SoAt w g d t) : g ≠ rb := fun e => by
 unfold XB at h
 unfold SoAt at k
 rw [← e,k] at h
 injection h with h
 injection h with _ h _
 exact absurd h (by decide)
theorem q9J (rb X : Nat) (hX : X < 18446744073709551616) (w : World) (h : XB w rb X) :
  Calls Tryz.prog 139 #[.pointer (some ⟨rb,0,none⟩)] w fun e w' => ∃ Y : Nat,e = .returned (.int .u64 (Y : Int)) ∧ Y < 18446744073709551616 ∧ XB w' rb Y ∧ w.grownBy w' (some rb) := by
 refine (AnyF.xorshift_Next qay rb 0 X hX w (qb h 0) (frozen_of_row w rb 0 _ _ h)).mono ?_
 rintro e w' ⟨rfl,rfl⟩
 refine ⟨xorNextN X,rfl,Go.Sort.xorNextN_lt X hX,?_,qj (qk (World.grownBy.refl _ _) _) _⟩
 have hs : XB (w.setCell ⟨rb,0,none⟩ (.int .u64 ((xorNextN X : Nat) : Int))) rb (xorNextN X) := by
  unfold XB
  rw [heap_setCell_same _ rb 0 _ _ _ h]; rfl
 exact ((below_drewN (Below.refl _ (w.setCell ⟨rb,0,none⟩ (.int .u64 ((xorNextN X : Nat) : Int)))) 3).block rb (Array.getElem?_eq_some_iff.1 hs).1).trans hs
theorem qg7 {L : Nat} (h : 0 < L) : 1 ≤ 1 <<< bitsLen L ∧ 1 <<< bitsLen L ≤ 2 * L := by
 unfold bitsLen
 rw [if_neg (by omega),Nat.shiftLeft_eq,Nat.one_mul,Nat.pow_succ]
 have h1 := Nat.log2_self_le (n := L) (by omega)
 have h2 := Nat.two_pow_pos L.log2
 omega
theorem q7E (g c a b : Nat) (d : Array Int) (t : List Int) (w : World) (h : SoAt w g d t) (hab : a + 12 < b) (hb : b ≤ d.size) (hn : d.size ≤ 1000000) :
  Calls Tryz.prog 109 #[.slice (some ⟨g,0,none⟩) d.size c,.int .i64 (a : Int),.int .i64 (b : Int)] w fun e w' => e = .returned (.tuple #[]) ∧ ∃ d',PermIn a b d d' ∧ d'.size = d.size ∧ SoAt w' g d' t ∧ w.grownBy w' (some g) := by
 obtain ⟨N,hN⟩ : ∃ N,d.size = N := ⟨_,rfl⟩
 obtain ⟨L,hL⟩ : ∃ L,L = b - a := ⟨_,rfl⟩
 obtain ⟨T,hT⟩ : ∃ T,T = L / 4 := ⟨_,rfl⟩
 obtain ⟨T2,hT2⟩ : ∃ T2,T2 = T * 2 := ⟨_,rfl⟩
 obtain ⟨J,hJ⟩ : ∃ J,J = a + T2 := ⟨_,rfl⟩
 obtain ⟨J0,hJ0⟩ : ∃ J0,J0 = J - 1 := ⟨_,rfl⟩
 obtain ⟨J1,hJ1⟩ : ∃ J1,J1 = J + 1 := ⟨_,rfl⟩
 obtain ⟨M,hM⟩ : ∃ M,M = 1 <<< bitsLen L := ⟨_,rfl⟩
 obtain ⟨M1,hM1⟩ : ∃ M1,M1 = M - 1 := ⟨_,rfl⟩
 have hpw := qg7 (L := L) (by omega)
 rw [← hM] at hpw
 have HS0 : Hid (SoAt w g d t) := h
 have HD0 : Hid (d.size = N) := hN
 have wL : IntKind.i64.wrap ((b : Int) - (a : Int)) = (L : Int) := by rw [IntKind.wrap_i64]; omega
 have eL : (b : Int) - (a : Int) = (L : Int) := by omega
 have h8 : ((8 : Int) ≤ (L : Int)) := by omega
 have tT : ((L : Int)).tdiv 4 = (T : Int) := by rw [Int.tdiv_eq_ediv_of_nonneg (by omega)]; omega
 have wT2 : IntKind.i64.wrap ((T : Int) * 2) = (T2 : Int) := by rw [IntKind.wrap_i64]; omega
 have eT2 : (T : Int) * 2 = (T2 : Int) := by omega
 have wJ : IntKind.i64.wrap ((a : Int) + (T2 : Int)) = (J : Int) := by rw [IntKind.wrap_i64]; omega
 have eJ : (a : Int) + (T2 : Int) = (J : Int) := by omega
 have wJ0 : IntKind.i64.wrap ((J : Int) - 1) = (J0 : Int) := by rw [IntKind.wrap_i64]; omega
 have eJ0 : (J : Int) - 1 = (J0 : Int) := by omega
 have wJ1 : IntKind.i64.wrap ((J : Int) + 1) = (J1 : Int) := by rw [IntKind.wrap_i64]; omega
 have eJ1 : (J : Int) + 1 = (J1 : Int) := by omega
 have wX : IntKind.u64.wrap (L : Int) = (L : Int) := by rw [IntKind.wrap_u64]; omega
 have wM : IntKind.u64.wrap ((M : Int) - 1) = (M1 : Int) := by rw [IntKind.wrap_u64]; omega
 have eM : (M : Int) - 1 = (M1 : Int) := by omega
 have wM1 : IntKind.u64.wrap (M1 : Int) = (M1 : Int) := by rw [IntKind.wrap_u64]; omega
 have HF : Hid (a ≤ J0 ∧ J1 < b ∧ J1 = J0 + 2 ∧ M1 < 2 * L ∧ L = b - a ∧ M1 < 2000000) := ⟨by omega,by omega,by omega,by omega,by omega,by omega⟩
 have hnp := q4Z L (by omega)
 rw [← hM] at hnp
 have hb1 := qd w (.cells #[.int .u64 (L : Int)] 197)
 have HX1 : Hid (XB (w.alloc (.cells #[.int .u64 (L : Int)] 197)) w.heap.size L) := (MapKept.heap_alloc w _).1
 have HS1 : Hid (SoAt (w.alloc (.cells #[.int .u64 (L : Int)] 197)) g d t) := (hb1.block g h.lt).trans h
 have HG1 : Hid (w.grownBy (w.alloc (.cells #[.int .u64 (L : Int)] 197)) (some g)) := ⟨hb1.os,hb1.tape,hb1.output,hb1.size,fun j hj _ => hb1.block j hj⟩
 have HP1 : Hid (PermIn a b d d) := Go.Sort.permIn_refl d a b
 have HB : Hid (b ≤ d.size) := hb
 rw [hN] at hb hn ⊢
 have hLN : L ≤ 1000000 := by omega
 have hTb : T ≤ 1000000 := by omega
 have hT2b : T2 ≤ 2000000 := by omega
 have hJb : J ≤ 3000000 := by omega
 have hJp : 1 ≤ J := by omega
 clear h hN hL hT hT2 hJ hJ0 hJ1 hM hM1 hpw hb1
 go_enter Tryz.func109,Tryz.ntmps109
 go_wp2_with fail
 generalize w.alloc (.cells #[.int .u64 (L : Int)] 197) = w1 at *
 refine (hnp w1).mono ?_
 rintro e w2 ⟨rfl,hw2⟩
 obtain rfl := hw2.symm
 clear hnp
 go_wp2
 go_loopw [9] (fun iv wr => ∃ i : Nat,J0 ≤ i ∧ i ≤ J1 + 1 ∧ iv = .int .i64 (i : Int) ∧ ∃ (dk : Array Int) (X : Nat),Hid (dk.size = N) ∧ Hid (SoAt wr g dk t) ∧ Hid (PermIn a b d dk) ∧ Hid (XB wr w.heap.size X) ∧ Hid (X < 18446744073709551616) ∧ Hid (w.grownBy wr (some g))) (fun iv _ => J1 + 1 - (intOf iv).toNat)
 case atStart => exact ⟨J0,Nat.le_refl _,by have := HF.out; omega,by first | rfl | go_num,d,L,HD0,HS1,HP1,HX1,by show _ < _; omega,HG1⟩
 case round =>
  obtain ⟨i,hi1,hi2,rfl,dk,X,HD,HS,HP,HX,HXL,HG⟩ := hrel
  clear HD0 HS1 HP1 HX1 HG1 HS0
  by_cases hij : i ≤ J1
  ·have hij' : (i : Int) ≤ (J1 : Int) := by omega
   have hne := XB.ne HX.out HS.out
   have hnx := q9J w.heap.size X HXL.out wr HX.out
   go_wp2_with fail
   refine hnx.mono ?_
   rintro e w3 ⟨Y,rfl,hY,hx3,hg3⟩
   have HS3 : Hid (SoAt w3 g dk t) := SoAt.grown HS.out hg3 hne
   have HX3 : Hid (XB w3 w.heap.size Y) := hx3
   have HY : Hid (Y < 18446744073709551616) := hY
   have HG3 : Hid (w.grownBy w3 (some g)) := by
    have h1 := HG.out
    exact ⟨hg3.os.trans h1.os,hg3.tape.trans h1.tape,hg3.output.trans h1.output,Nat.le_trans h1.size hg3.size,fun j hj hn => (hg3.block j (Nat.lt_of_lt_of_le hj h1.size) (fun e => by injection e with e; omega)).trans (h1.block j hj hn)⟩
   clear hnx hx3 hg3 HS HG HX HXL
   have hF := HF.out
   obtain ⟨O,hO⟩ : ∃ O,O = Y &&& M1 := ⟨_,rfl⟩
   have hOM : O ≤ M1 := by rw [hO]; exact Nat.and_le_right
   have hand : bits BinOp.and IntKind.u64 (Y : Int) (M1 : Int) = (O : Int) := by rw [bits_and_u64_nat Y M1 hY (by omega),hO]
   have wO : IntKind.i64.wrap (O : Int) = (O : Int) := by rw [IntKind.wrap_i64]; omega
   clear hO hY
   by_cases hOL : L ≤ O
   ·have hOL' : (L : Int) ≤ (O : Int) := by omega
    obtain ⟨O2,hO2⟩ : ∃ O2,O2 = O - L := ⟨_,rfl⟩
    have wO2 : IntKind.i64.wrap ((O : Int) - (L : Int)) = (O2 : Int) := by rw [IntKind.wrap_i64]; omega
    have eO2 : (O : Int) - (L : Int) = (O2 : Int) := by omega
    obtain ⟨Q,hQ⟩ : ∃ Q,Q = a + O2 := ⟨_,rfl⟩
    have wQ : IntKind.i64.wrap ((a : Int) + (O2 : Int)) = (Q : Int) := by rw [IntKind.wrap_i64]; omega
    have eQ : (a : Int) + (O2 : Int) = (Q : Int) := by omega
    have hQ1 : a ≤ Q := by omega
    have hQ2 : Q < b := by omega
    clear hO2 hQ
    have HPS : Hid (PermIn a b d (swp dk i Q)) := Go.Sort.permIn_trans _ _ _ _ _ HP.out (Go.Sort.swp_permIn dk a b i Q (by omega) (by omega) hQ1 hQ2 (by rw [HD.out]; omega))
    have hib : i < b := by omega
    clear HP hF
    go_wp2
    have hi1 := fun w' => qg g N c i w' (by omega)
    have hi2 := fun w' => qg g N c Q w' (by omega)
    have hsw : SoAt w3 g dk t := HS3.out
    have c3 := hsw.cell (i := i) (by rw [HD.out]; omega)
    have c4 := hsw.cell (i := Q) (by rw [HD.out]; omega)
    have f3 := hsw.fz i
    have f4 := hsw.fz Q
    have hswb : SoAt (w3.setCell ⟨g,i,none⟩ (.int .u64 dk[Q]!)) g (dk.setIfInBounds i dk[Q]!) t := hsw.set (by rw [HD.out]; omega) _
    have f5 := hswb.fz Q
    have c5 := hswb.cell (i := Q) (by rw [Array.size_setIfInBounds,HD.out]; omega)
    have HSa7 : Hid (SoAt ((w3.setCell ⟨g,i,none⟩ (.int .u64 dk[Q]!)).setCell ⟨g,Q,none⟩ (.int .u64 dk[i]!)) g (swp dk i Q) t) := hsw.swap (by rw [HD.out]; omega) (by rw [HD.out]; omega)
    have HGa7 : Hid (w.grownBy ((w3.setCell ⟨g,i,none⟩ (.int .u64 dk[Q]!)).setCell ⟨g,Q,none⟩ (.int .u64 dk[i]!)) (some g)) := qk (qk HG3.out _) _
    have HD7 : Hid ((swp dk i Q).size = N) := by show _ = _; rw [Go.Sort.size_swp]; exact HD.out
    have HXa : Hid (XB ((w3.setCell ⟨g,i,none⟩ (.int .u64 dk[Q]!)).setCell ⟨g,Q,none⟩ (.int .u64 dk[i]!)).drew w.heap.size Y) := (Below.heap_setCell _ _ _ _ (fun e => hne e.symm)).trans ((Below.heap_setCell _ _ _ _ (fun e => hne e.symm)).trans HX3.out)
    clear hsw hswb
    generalize (dk.setIfInBounds i dk[Q]!)[Q]! = ysw at *
    generalize dk[i]! = xi at *
    generalize dk[Q]! = xj at *
    go_upto_region 15 with fail
    go_region
    all_goals
     have HS7 : Hid (SoAt ((w3.setCell ⟨g,i,none⟩ (.int .u64 xj)).setCell ⟨g,Q,none⟩ (.int .u64 xi)).drew g (swp dk i Q) t) := SoAt.drew HSa7.out
     have HG7 : Hid (w.grownBy ((w3.setCell ⟨g,i,none⟩ (.int .u64 xj)).setCell ⟨g,Q,none⟩ (.int .u64 xi)).drew (some g)) := qu HGa7.out
     clear HSa7 HGa7 c3 c4 f3 f4 f5 c5 hi1 hi2
     generalize ((w3.setCell ⟨g,i,none⟩ (.int .u64 xj)).setCell ⟨g,Q,none⟩ (.int .u64 xi)).drew = w7 at *
     generalize swp dk i Q = d7 at *
     have HX7 : Hid (XB w7 w.heap.size Y) := HXa.out
     go_wp2
     go_roundw
     case rel => exact ⟨i + 1,by omega,by omega,by go_num,d7,Y,HD7,HS7,HPS,HX7,HY,HG7⟩
     case measure => simp [intOf]; omega
   ·have hOL' : ¬ (L : Int) ≤ (O : Int) := by omega
    obtain ⟨Q,hQ⟩ : ∃ Q,Q = a + O := ⟨_,rfl⟩
    have wQ : IntKind.i64.wrap ((a : Int) + (O : Int)) = (Q : Int) := by rw [IntKind.wrap_i64]; omega
    have eQ : (a : Int) + (O : Int) = (Q : Int) := by omega
    have hQ1 : a ≤ Q := by omega
    have hQ2 : Q < b := by omega
    clear hQ
    have HPS : Hid (PermIn a b d (swp dk i Q)) := Go.Sort.permIn_trans _ _ _ _ _ HP.out (Go.Sort.swp_permIn dk a b i Q (by omega) (by omega) hQ1 hQ2 (by rw [HD.out]; omega))
    have hib : i < b := by omega
    clear HP hF
    go_wp2
    have hi1 := fun w' => qg g N c i w' (by omega)
    have hi2 := fun w' => qg g N c Q w' (by omega)
    have hsw : SoAt w3 g dk t := HS3.out
    have c3 := hsw.cell (i := i) (by rw [HD.out]; omega)
    have c4 := hsw.cell (i := Q) (by rw [HD.out]; omega)
    have f3 := hsw.fz i
    have f4 := hsw.fz Q
    have hswb : SoAt (w3.setCell ⟨g,i,none⟩ (.int .u64 dk[Q]!)) g (dk.setIfInBounds i dk[Q]!) t := hsw.set (by rw [HD.out]; omega) _
    have f5 := hswb.fz Q
    have c5 := hswb.cell (i := Q) (by rw [Array.size_setIfInBounds,HD.out]; omega)
    have HSa7 : Hid (SoAt ((w3.setCell ⟨g,i,none⟩ (.int .u64 dk[Q]!)).setCell ⟨g,Q,none⟩ (.int .u64 dk[i]!)) g (swp dk i Q) t) := hsw.swap (by rw [HD.out]; omega) (by rw [HD.out]; omega)
    have HGa7 : Hid (w.grownBy ((w3.setCell ⟨g,i,none⟩ (.int .u64 dk[Q]!)).setCell ⟨g,Q,none⟩ (.int .u64 dk[i]!)) (some g)) := qk (qk HG3.out _) _
    have HD7 : Hid ((swp dk i Q).size = N) := by show _ = _; rw [Go.Sort.size_swp]; exact HD.out
    have HXa : Hid (XB ((w3.setCell ⟨g,i,none⟩ (.int .u64 dk[Q]!)).setCell ⟨g,Q,none⟩ (.int .u64 dk[i]!)).drew w.heap.size Y) := (Below.heap_setCell _ _ _ _ (fun e => hne e.symm)).trans ((Below.heap_setCell _ _ _ _ (fun e => hne e.symm)).trans HX3.out)
    clear hsw hswb
    generalize (dk.setIfInBounds i dk[Q]!)[Q]! = ysw at *
    generalize dk[i]! = xi at *
    generalize dk[Q]! = xj at *
    go_upto_region 15 with fail
    go_region
    all_goals
     have HS7 : Hid (SoAt ((w3.setCell ⟨g,i,none⟩ (.int .u64 xj)).setCell ⟨g,Q,none⟩ (.int .u64 xi)).drew g (swp dk i Q) t) := SoAt.drew HSa7.out
     have HG7 : Hid (w.grownBy ((w3.setCell ⟨g,i,none⟩ (.int .u64 xj)).setCell ⟨g,Q,none⟩ (.int .u64 xi)).drew (some g)) := qu HGa7.out
     clear HSa7 HGa7 c3 c4 f3 f4 f5 c5 hi1 hi2
     generalize ((w3.setCell ⟨g,i,none⟩ (.int .u64 xj)).setCell ⟨g,Q,none⟩ (.int .u64 xi)).drew = w7 at *
     generalize swp dk i Q = d7 at *
     have HX7 : Hid (XB w7 w.heap.size Y) := HXa.out
     go_wp2
     go_roundw
     case rel => exact ⟨i + 1,by omega,by omega,by go_num,d7,Y,HD7,HS7,HPS,HX7,HY,HG7⟩
     case measure => simp [intOf]; omega
  ·have hij' : ¬ (i : Int) ≤ (J1 : Int) := by omega
   go_wp2
   go_end0
   exact ⟨rfl,dk,HP.out,HD.out,HS.out,HG.out⟩
end Go.Proofs.YtailhklbmenaoaaGreatDoor
namespace Go.Proofs.YtailhklbmenaoaaGreatDoor
open Go.RowKit Go.Maps
open Go.Sort (swp PermIn SortedIn)
def PdqC (n : Nat) : Prop := ∀ (g c a b lim : Nat) (d : Array Int) (t : List Int) (w : World),SoAt w g d t → a ≤ b → b ≤ d.size → d.size ≤ 1000000 → lim ≤ 64 → b - a < n → Go.Sort.Below lt64 a b d →
 Calls Tryz.prog 87 #[.slice (some ⟨g,0,none⟩) d.size c,.int .i64 (a : Int),.int .i64 (b : Int),.int .i64 (lim : Int)] w fun e w' => e = .returned (.tuple #[]) ∧ ∃ d',PermIn a b d d' ∧ SortedIn lt64 a b d' ∧ SoAt w' g d' t ∧ w.grownBy w' (some g)
theorem qd1 {w w' : World} (h : w.grownBy w' none) (g : Nat) : w.grownBy w' (some g) := ⟨h.os,h.tape,h.output,h.size,fun j hj _ => h.block j hj (fun e => by cases e)⟩
theorem q9N (n : Nat) (IH : PdqC n) : PdqC (n + 1) := by
 intro g c a0 b0 lim0 d0 t w h hab hb hn hlim hlt hB
 obtain ⟨N,hN⟩ : ∃ N,d0.size = N := ⟨_,rfl⟩
 have HS0 : Hid (SoAt w g d0 t) := h
 have HD0 : Hid (d0.size = N) := hN
 have HG0 : Hid (w.grownBy w (some g)) := World.grownBy.refl _ _
 have HQ0 : Hid (PQ a0 b0 a0 b0 d0 d0) := qeT hab hB
 have HBB : Hid (b0 ≤ d0.size) := hb
 have HIH : Hid (PdqC n) := IH
 have HFIN : Hid (∀ (a b : Nat) (d d' : Array Int) (w' : World),PQ a0 b0 a b d0 d → PermIn a b d d' → SortedIn lt64 a b d' → SoAt w' g d' t → w.grownBy w' (some g) → ∃ d',PermIn a0 b0 d0 d' ∧ SortedIn lt64 a0 b0 d' ∧ SoAt w' g d' t ∧ w.grownBy w' (some g)) := fun a b d d' w' hq hp hs h1 h2 => ⟨d',hq.up hb hp,hq.fin d' hp hs,h1,h2⟩
 rw [hN] at hb hn ⊢
 clear h hN hB IH
 go_enter Tryz.func87,Tryz.ntmps87
 go_wp2
 go_loopw [1,2,3,8,9] (fun av bv lv f1v f2v wr => ∃ (a b lim : Nat) (f1 f2 : Bool),av = .int .i64 (a : Int) ∧ bv = .int .i64 (b : Int) ∧ lv = .int .i64 (lim : Int) ∧ f1v = .bool f1 ∧ f2v = .bool f2 ∧ lim ≤ 64 ∧ ∃ dk : Array Int,Hid (dk.size = N) ∧ Hid (SoAt wr g dk t) ∧ Hid (PQ a0 b0 a b d0 dk) ∧ Hid (w.grownBy wr (some g))) (fun av bv _ _ _ _ => (intOf bv - intOf av).toNat)
 case atStart => exact ⟨a0,b0,lim0,true,true,rfl,rfl,rfl,rfl,rfl,hlim,d0,HD0,HS0,HQ0,HG0⟩
 case round =>
  obtain ⟨a,b,lim,f1,f2,rfl,rfl,rfl,rfl,rfl,hlm,dk,HD,HS,HQ,HG⟩ := hrel
  clear HS0 HD0 HG0 HQ0
  have q1 := HQ.out.a1
  have q2 := HQ.out.ab
  have q3 := HQ.out.b1
  obtain ⟨L,hL⟩ : ∃ L,L = b - a := ⟨_,rfl⟩
  have wL : IntKind.i64.wrap ((b : Int) - (a : Int)) = (L : Int) := by rw [IntKind.wrap_i64]; omega
  have eL : (b : Int) - (a : Int) = (L : Int) := by omega
  have HL : Hid (L = b - a) := hL
  by_cases h12 : L ≤ 12
  ·have h12' : (L : Int) ≤ 12 := by omega
   have hins := q65 g c a b dk t wr HS.out q2 (by rw [HD.out]; omega) (by rw [HD.out]; omega)
   have HI : Hid _ := Go.Sort.insertionSort_holds swo64 dk a b q2 (by rw [HD.out]; omega)
   rw [HD.out] at hins
   clear hL
   go_wp2_with fail
   refine hins.mono ?_
   rintro e w1 ⟨rfl,hs1,hg1⟩
   have HZ : Hid _ := HFIN.out a b dk _ w1 HQ.out HI.out.1 HI.out.2 hs1 (qz HG.out hg1)
   clear hins hs1 hg1
   go_wp2
   refine bodyPost_ret (results_none rfl _ _ _) rfl ?_
   exact ⟨rfl,HZ.out⟩
  ·have h12' : ¬ (L : Int) ≤ 12 := by omega
   have hab12 : a + 12 < b := by omega
   by_cases hl0 : lim = 0
   ·have hl0' : ((lim : Int) == 0) = true := by rw [beq_iff_eq]; omega
    have hhp := q5K g c a b dk t wr HS.out (by omega) (by rw [HD.out]; omega) (by rw [HD.out]; omega)
    have HI : Hid _ := Go.Sort.heapSort_holds swo64 dk a b q2 (by rw [HD.out]; omega)
    rw [HD.out] at hhp
    clear hL hl0
    go_wp2_with fail
    refine hhp.mono ?_
    rintro e w1 ⟨rfl,hs1,hg1⟩
    have HZ : Hid _ := HFIN.out a b dk _ w1 HQ.out HI.out.1 HI.out.2 hs1 (qz HG.out hg1)
    clear hhp hs1 hg1
    go_wp2
    refine bodyPost_ret (results_none rfl _ _ _) rfl ?_
    exact ⟨rfl,HZ.out⟩
   ·have hl0' : ((lim : Int) == 0) = false := by rw [beq_eq_false_iff_ne]; omega
    obtain ⟨lm,hlm1⟩ : ∃ lm,lm = lim - 1 := ⟨_,rfl⟩
    have wlm : IntKind.i64.wrap ((lim : Int) - 1) = (lm : Int) := by rw [IntKind.wrap_i64]; omega
    have elm : (lim : Int) - 1 = (lm : Int) := by omega
    have hlm2 : lm ≤ 64 := by omega
    have hbr := q7E g c a b dk t wr HS.out hab12 (by rw [HD.out]; omega) (by rw [HD.out]; omega)
    rw [HD.out] at hbr
    clear hL hl0 hlm1
    go_upto_if 35 with fail
    go_cut [3] (fun lv wx => ∃ l1 : Nat,lv = .int .i64 (l1 : Int) ∧ l1 ≤ 64 ∧ ∃ d1 : Array Int,Hid (d1.size = N) ∧ Hid (SoAt wx g d1 t) ∧ Hid (PQ a0 b0 a b d0 d1) ∧ Hid (w.grownBy wx (some g)))
    case first =>
     cases f1 with
     | true =>
      go_wp2
      go_meet
      case rel => exact ⟨lim,rfl,hlm,dk,HD,HS,HQ,HG⟩
     | false =>
      go_wp2_with fail
      refine hbr.mono ?_
      rintro e w1 ⟨rfl,d1,hp1,hz1,hs1,hg1⟩
      have HQ1 : Hid (PQ a0 b0 a b d0 d1) := HQ.out.move HBB.out hp1
      have HS1 : Hid (SoAt w1 g d1 t) := hs1
      have HD1 : Hid (d1.size = N) := hz1
      have HG1 : Hid (w.grownBy w1 (some g)) := qz HG.out hg1
      clear hbr hp1 hz1 hs1 hg1
      go_wp2
      go_meet
      case rel => exact ⟨lm,rfl,hlm2,d1,HD1,HS1,HQ1,HG1⟩
    case rest =>
     obtain ⟨l1,rfl,hl1,d1,HD1,HS1,HQ1,HG1⟩ := hcut
     clear hbr HD HS HQ HG wlm elm hl0' hlm2
     generalize wc = w1 at *
     have hch := q6E g c a b d1 t w1 HS1.out hab12 (by rw [HD1.out]; omega) (by rw [HD1.out]; omega)
     rw [HD1.out] at hch
     go_wp2_with fail
     refine hch.mono ?_
     rintro e w2 ⟨q,k,rfl,hqa,hqb,hk,hs2,hg2⟩
     have HS2 : Hid (SoAt w2 g d1 t) := hs2
     have HG2 : Hid (w.grownBy w2 (some g)) := qz HG1.out (qd1 hg2 g)
     clear hch hs2 hg2 HS1 HG1
     obtain ⟨b1,hb1⟩ : ∃ b1,b1 = b - 1 := ⟨_,rfl⟩
     obtain ⟨qa,hqa1⟩ : ∃ qa,qa = q - a := ⟨_,rfl⟩
     obtain ⟨q1,hqq⟩ : ∃ q1,q1 = b1 - qa := ⟨_,rfl⟩
     have wb1 : IntKind.i64.wrap ((b : Int) - 1) = (b1 : Int) := by rw [IntKind.wrap_i64]; omega
     have eb1 : (b : Int) - 1 = (b1 : Int) := by omega
     have wqa : IntKind.i64.wrap ((q : Int) - (a : Int)) = (qa : Int) := by rw [IntKind.wrap_i64]; omega
     have eqa : (q : Int) - (a : Int) = (qa : Int) := by omega
     have wqq : IntKind.i64.wrap ((b1 : Int) - (qa : Int)) = (q1 : Int) := by rw [IntKind.wrap_i64]; omega
     have eqq : (b1 : Int) - (qa : Int) = (q1 : Int) := by omega
     have hq1a : a ≤ q1 := by omega
     have hq1b : q1 < b := by omega
     have hrv := q5P g c a b d1 t w2 HS2.out q2 (by rw [HD1.out]; omega) (by rw [HD1.out]; omega)
     have HRV : Hid _ := Go.Sort.reverseRange_holds d1 a b q2 (by rw [HD1.out]; omega)
     rw [HD1.out] at hrv
     clear hb1 hqa1 hqq
     go_upto_if 50 with fail
     go_cut [11,12] (fun qv kv wx => ∃ q k : Nat,qv = .int .i64 (q : Int) ∧ kv = .int .i64 (k : Int) ∧ a ≤ q ∧ q < b ∧ k ≤ 2 ∧ ∃ d1 : Array Int,Hid (d1.size = N) ∧ Hid (SoAt wx g d1 t) ∧ Hid (PQ a0 b0 a b d0 d1) ∧ Hid (w.grownBy wx (some g)))
     case first =>
      by_cases hk2 : k = 2
      ·have hk2' : ((k : Int) == 2) = true := by rw [beq_iff_eq]; omega
       clear hk2
       go_wp2_with fail
       refine hrv.mono ?_
       rintro e w3 ⟨rfl,hs3,hg3⟩
       have HQ3 : Hid (PQ a0 b0 a b d0 (Go.Sort.reverseRange d1 a b)) := HQ1.out.move HBB.out HRV.out
       have HS3 : Hid (SoAt w3 g (Go.Sort.reverseRange d1 a b) t) := hs3
       have HD3 : Hid ((Go.Sort.reverseRange d1 a b).size = N) := HRV.out.1.trans HD1.out
       have HG3 : Hid (w.grownBy w3 (some g)) := qz HG2.out hg3
       clear hrv hs3 hg3
       go_wp2_with fail
       go_meet
       case rel => exact ⟨q1,1,rfl,rfl,hq1a,hq1b,by omega,_,HD3,HS3,HQ3,HG3⟩
      ·have hk2' : ((k : Int) == 2) = false := by rw [beq_eq_false_iff_ne]; omega
       clear hk2
       go_wp2_with fail
       go_meet
       case rel => exact ⟨q,k,rfl,rfl,hqa,hqb,hk,d1,HD1,HS2,HQ1,HG2⟩
     case rest =>
      clear hrv HRV wb1 eb1 wqa eqa wqq eqq hq1a hq1b HD1 HS2 HQ1 HG2 hqa hqb hk
      obtain ⟨q,k,rfl,rfl,hqa,hqb,hk,d2,HD2,HS2,HQ2,HG2⟩ := hcut
      generalize wc = w3 at *
      go_upto_region 15 with fail
      go_cut [68] (fun cv wx => cv = .bool (f1 && f2 && ((k : Int) == 1)) ∧ wx = w3)
      case first =>
       cases f1 <;> cases f2 <;> (go_wp2_with fail; go_meet; exact ⟨rfl,rfl⟩)
      case rest =>
       obtain ⟨rfl,rfl⟩ := hcut
       generalize (f1 && f2 && ((k : Int) == 1)) = y at *
       generalize wc = w4 at *
       have hpi := q9O g c a b d2 t w4 HS2.out (by omega) (by rw [HD2.out]; omega) (by rw [HD2.out]; omega)
       have HPI : Hid _ := Go.Sort.partialInsertionSort_holds swo64 d2 a b (by omega) (by rw [HD2.out]; omega) HQ2.out.bel
       rw [HD2.out] at hpi
       generalize Go.Sort.partialInsertionSort lt64 d2 a b = R at *
       obtain ⟨R1,R2⟩ := R
       go_upto_if 68 with fail
       go_cut [12] (fun kv wx => kv = .int .i64 (k : Int) ∧ ∃ d1 : Array Int,Hid (d1.size = N) ∧ Hid (SoAt wx g d1 t) ∧ Hid (PQ a0 b0 a b d0 d1) ∧ Hid (w.grownBy wx (some g)))
       case first =>
        cases y with
        | false =>
         go_wp2_with fail
         go_meet
         case rel => exact ⟨rfl,d2,HD2,HS2,HQ2,HG2⟩
        | true =>
         go_wp2_with fail
         refine hpi.mono ?_
         rintro e w5 ⟨rfl,hs5,hg5⟩
         have HS5 : Hid (SoAt w5 g R1 t) := hs5
         have HG5 : Hid (w.grownBy w5 (some g)) := qz HG2.out hg5
         clear hpi hs5 hg5
         cases R2 with
         | true =>
          have HZ : Hid _ := HFIN.out a b d2 _ w5 HQ2.out HPI.out.1 (HPI.out.2 rfl) HS5.out HG5.out
          go_wp2_with fail
          refine bodyPost_ret (results_none rfl _ _ _) rfl ?_
          exact ⟨rfl,HZ.out⟩
         | false =>
          have HQ5 : Hid (PQ a0 b0 a b d0 R1) := HQ2.out.move HBB.out HPI.out.1
          have HD5 : Hid (R1.size = N) := HPI.out.1.1.trans HD2.out
          go_wp2_with fail
          go_meet
          case rel => exact ⟨rfl,R1,HD5,HS5,HQ5,HG5⟩
       case rest =>
        clear hpi HPI HD2 HS2 HQ2 HG2
        obtain ⟨rfl,d3,HD3,HS3,HQ3,HG3⟩ := hcut
        generalize wc = w5 at *
        obtain ⟨am,ham⟩ : ∃ am,am = a - 1 := ⟨_,rfl⟩
        have HAM : Hid (am = a - 1) := ham
        obtain ⟨y2,hy2⟩ : ∃ y2 : Bool,y2 = (decide (0 < a) && !lt64 d3[am]! d3[q]!) := ⟨_,rfl⟩
        have HY : Hid (y2 = (decide (0 < a) && !lt64 d3[am]! d3[q]!)) := hy2
        clear hy2
        go_upto_region 17 with fail
        go_cut [87] (fun cv wx => cv = .bool y2 ∧ Hid (SoAt wx g d3 t) ∧ Hid (w.grownBy wx (some g)))
        case first =>
         by_cases hij : 0 < a
         ·have hd : decide ((0 : Int) < (a : Int)) = true := decide_eq_true (by omega)
          have wam : IntKind.i64.wrap ((a : Int) - 1) = (am : Int) := by rw [IntKind.wrap_i64]; omega
          have eam : (a : Int) - 1 = (am : Int) := by omega
          have j1 := fun w' => qg g N c am w' (by omega)
          have j2 := fun w' => qg g N c q w' (by omega)
          have hsw : SoAt w5 g d3 t := HS3.out
          have c3 := hsw.cell (i := am) (by rw [HD3.out]; omega)
          have c4 := hsw.cell (i := q) (by rw [HD3.out]; omega)
          have hless := fun w' => qo d3[am]! d3[q]! w'
          have HY2 : Hid (y2 = !(lt64 d3[am]! d3[q]!)) := by
           show _ = _
           rw [HY.out,decide_eq_true hij]; rfl
          clear hsw HY ham
          generalize lt64 d3[am]! d3[q]! = lv at *
          generalize d3[am]! = xv at *
          generalize d3[q]! = xa at *
          obtain rfl := HY2.out
          go_quiet ((go_at_call 113; exact Calls.quiet_of_same (hless _)))
          go_wp2_with fail
          go_meet
          case rel => exact ⟨rfl,SoAt.drewN HS3.out _,qj HG3.out _⟩
         ·have hd : decide ((0 : Int) < (a : Int)) = false := decide_eq_false (by omega)
          have HY2 : Hid (y2 = false) := by
           show _ = _
           rw [HY.out,decide_eq_false hij]; rfl
          clear HY ham
          obtain rfl := HY2.out
          go_quiet (fail)
          go_wp2_with fail
          go_meet
          case rel => exact ⟨rfl,SoAt.drewN HS3.out _,qj HG3.out _⟩
        case rest =>
         clear HS3 HG3 ham
         obtain ⟨rfl,HS3,HG3⟩ := hcut
         generalize wc = w6 at *
         cases y2 with
         | true =>
          have HY3 : Hid (0 < a ∧ lt64 d3[a - 1]! d3[q]! = false) := by
           have h0 := HY.out
           rw [HAM.out] at h0
           simp only [Bool.true_eq,Bool.and_eq_true,decide_eq_true_eq,Bool.not_eq_true'] at h0
           exact h0
          have hpe := q6W g c a b q d3 t w6 HS3.out (by omega) (by rw [HD3.out]; omega) hqa hqb (by rw [HD3.out]; omega)
          rw [HD3.out] at hpe
          go_wp2_with fail
          refine hpe.mono ?_
          rintro e w7 ⟨m,d4,rfl,hP,hs7,hg7⟩
          have HQ7 : Hid (PQ a0 b0 m b d0 d4) := HQ3.out.eq HBB.out HY3.out.1 HY3.out.2 hP
          have HD7 : Hid (d4.size = N) := hP.sz.trans HD3.out
          have HS7 : Hid (SoAt w7 g d4 t) := hs7
          have HG7 : Hid (w.grownBy w7 (some g)) := qz HG3.out hg7
          have hm1 := hP.ma
          have hm2 := hP.mb
          clear hpe hP hs7 hg7
          go_wp2_with fail
          go_roundw
          case rel => exact ⟨m,b,l1,f1,f2,rfl,rfl,rfl,rfl,rfl,hl1,d4,HD7,HS7,HQ7,HG7⟩
          case measure => simp [intOf]; omega
         | false =>
          have hpt := q9L g c a b q d3 t w6 HS3.out (by omega) (by rw [HD3.out]; omega) hqa hqb (by rw [HD3.out]; omega)
          rw [HD3.out] at hpt
          clear HY HAM
          go_wp2_with fail
          refine hpt.mono ?_
          rintro e w7 ⟨m,f,d4,rfl,hP,hs7,hg7⟩
          have HP : Hid (Parted d3 a b m d4) := hP
          have HD7 : Hid (d4.size = N) := hP.sz.trans HD3.out
          have HS7 : Hid (SoAt w7 g d4 t) := hs7
          have HG7 : Hid (w.grownBy w7 (some g)) := qz HG3.out hg7
          have hm1 := hP.ma
          have hm2 := hP.mb
          obtain ⟨la,hla⟩ : ∃ la,la = m - a := ⟨_,rfl⟩
          obtain ⟨lb,hlb⟩ : ∃ lb,lb = b - m := ⟨_,rfl⟩
          obtain ⟨T,hT⟩ : ∃ T,T = L / 8 := ⟨_,rfl⟩
          obtain ⟨ms,hms⟩ : ∃ ms,ms = m + 1 := ⟨_,rfl⟩
          have wla : IntKind.i64.wrap ((m : Int) - (a : Int)) = (la : Int) := by rw [IntKind.wrap_i64]; omega
          have ela : (m : Int) - (a : Int) = (la : Int) := by omega
          have wlb : IntKind.i64.wrap ((b : Int) - (m : Int)) = (lb : Int) := by rw [IntKind.wrap_i64]; omega
          have elb : (b : Int) - (m : Int) = (lb : Int) := by omega
          have tT : ((L : Int)).tdiv 8 = (T : Int) := by rw [Int.tdiv_eq_ediv_of_nonneg (by omega)]; omega
          have wms : IntKind.i64.wrap ((m : Int) + 1) = (ms : Int) := by rw [IntKind.wrap_i64]; omega
          have ems : (m : Int) + 1 = (ms : Int) := by omega
          have HMS : Hid (ms = m + 1) := hms
          have hBl : Go.Sort.Below lt64 a m d4 := by
           rcases (HQ3.out.move HBB.out hP.perm).bel with k0 | k0
           ·exact Or.inl k0
           ·exact Or.inr fun i k1 k2 => k0 i k1 (by omega)
          have hBr : Go.Sort.Below lt64 ms b d4 := by
           rw [hms]
           exact Or.inr fun i k1 k2 => by rw [show m + 1 - 1 = m by omega]; exact hP.hi i (by omega) k2
          have hcl := HIH.out g c a m l1 d4 t w7 hs7 hm1 (by rw [HD7.out]; omega) (by rw [HD7.out]; omega) hl1 (by omega) hBl
          have hcr := HIH.out g c ms b l1 d4 t w7 hs7 (by omega) (by rw [HD7.out]; omega) (by rw [HD7.out]; omega) hl1 (by omega) hBr
          rw [HD7.out] at hcl hcr
          clear hpt hP hs7 hg7 hBl hBr hla hlb hT hms
          by_cases hlt2 : la < lb
          ·have hlt2' : (la : Int) < (lb : Int) := by omega
           clear hcr
           go_wp2_with fail
           refine hcl.mono ?_
           rintro e w8 ⟨rfl,d5,hp5,hs5,hs8,hg8⟩
           have HQ8 : Hid (PQ a0 b0 ms b d0 d5) := by
            rw [HMS.out]
            exact HQ3.out.left HBB.out HP.out hp5 hs5
           have HD8 : Hid (d5.size = N) := hp5.1.trans HD7.out
           have HS8 : Hid (SoAt w8 g d5 t) := hs8
           have HG8 : Hid (w.grownBy w8 (some g)) := qz HG7.out hg8
           clear hcl hp5 hs5 hs8 hg8
           go_wp2_with fail
           go_roundw
           case rel => exact ⟨ms,b,l1,_,f,rfl,rfl,rfl,rfl,rfl,hl1,d5,HD8,HS8,HQ8,HG8⟩
           case measure => simp [intOf]; omega
          ·have hlt2' : ¬ (la : Int) < (lb : Int) := by omega
           clear hcl
           go_wp2_with fail
           refine hcr.mono ?_
           rintro e w8 ⟨rfl,d5,hp5,hs5,hs8,hg8⟩
           have HQ8 : Hid (PQ a0 b0 a m d0 d5) := by
            rw [HMS.out] at hp5 hs5
            exact HQ3.out.right HBB.out HP.out hp5 hs5
           have HD8 : Hid (d5.size = N) := hp5.1.trans HD7.out
           have HS8 : Hid (SoAt w8 g d5 t) := hs8
           have HG8 : Hid (w.grownBy w8 (some g)) := qz HG7.out hg8
           clear hcr hp5 hs5 hs8 hg8
           go_wp2_with fail
           go_roundw
           case rel => exact ⟨a,m,l1,_,f,rfl,rfl,rfl,rfl,rfl,hl1,d5,HD8,HS8,HQ8,HG8⟩
           case measure => simp [intOf]; omega
theorem qaD (n : Nat) : PdqC n := by
 induction n with
 | zero => intro g c a b lim d t w h hab hb hn hl hlt; omega
 | succ n ih => exact q9N n ih
theorem qdg (x : Nat) : Go.Lib.bitLen x ≤ 64 := by
 have h : ∀ f x,Go.Lib.bitLenAux f x ≤ f := by
  intro f
  induction f with
  | zero => intro x; exact Nat.le_refl _
  | succ f ih =>
   intro x
   show (if x = 0 then 0 else 1 + Go.Lib.bitLenAux f (x / 2)) ≤ f + 1
   split
   ·omega
   ·have := ih (x / 2); omega
 exact h 64 x
theorem qc6 {d d' : Array Int} (hp : PermIn 0 d.size d d') (hs : SortedIn lt64 0 d.size d') : d'.toList.Perm d.toList ∧ d'.toList.Pairwise (· ≤ ·) := by
 constructor
 ·have h := hp.2.2
  rw [Array.extract_size] at h
  rw [show d'.extract 0 d.size = d' by rw [← hp.1]; exact Array.extract_size] at h
  exact h
 ·rw [List.pairwise_iff_getElem]
  intro i j hi hj hij
  rw [Array.length_toList] at hi hj
  have h := hs i j (Nat.zero_le _) hij (by rw [← hp.1]; exact hj)
  rw [getElem!_pos d' i hi,getElem!_pos d' j hj] at h
  simp only [lt64,Go.Sort.ltInt,decide_eq_false_iff_not] at h
  rw [Array.getElem_toList,Array.getElem_toList]
  omega
theorem q9W (g c : Nat) (d : Array Int) (t : List Int) (w : World) (h : SoAt w g d t) (hn : d.size ≤ 1000000) :
  Calls Tryz.prog 61 #[.slice (some ⟨g,0,none⟩) d.size c] w fun e w' => e = .returned (.tuple #[]) ∧ ∃ d' : Array Int,d'.toList.Perm d.toList ∧ d'.toList.Pairwise (· ≤ ·) ∧ SoAt w' g d' t ∧ w.grownBy w' (some g) := by
 have hb := q4H (d.size : Int) w (by omega) (by omega)
 have hl := qdg (d.size : Int).toNat
 have hpq := qaD (d.size + 1) g c 0 d.size (Go.Lib.bitLen (d.size : Int).toNat) d t w h (Nat.zero_le _) (Nat.le_refl _) hn hl (by omega) (Or.inl rfl)
 have HF : Hid (∀ d' : Array Int,PermIn 0 d.size d d' → SortedIn lt64 0 d.size d' → d'.toList.Perm d.toList ∧ d'.toList.Pairwise (· ≤ ·)) := fun d' => qc6
 have wN : IntKind.u64.wrap (d.size : Int) = (d.size : Int) := by rw [IntKind.wrap_u64]; omega
 generalize Go.Lib.bitLen (d.size : Int).toNat = lim at *
 generalize d.size = N at *
 go_enter Tryz.func61,Tryz.ntmps61
 go_wp2_with fail
 refine hb.mono ?_
 rintro e w0 ⟨rfl,hw⟩
 rw [hw]
 clear hw w0
 go_wp2_with fail
 refine hpq.mono ?_
 rintro e w1 ⟨rfl,d',hp,hs,h1,hg⟩
 have HZ : Hid (∃ d' : Array Int,d'.toList.Perm d.toList ∧ d'.toList.Pairwise (· ≤ ·) ∧ SoAt w1 g d' t ∧ w.grownBy w1 (some g)) := ⟨d',(HF.out d' hp hs).1,(HF.out d' hp hs).2,h1,hg⟩
 clear hpq hb hp hs h1 hg HF
 go_wp2
 go_end0
 exact ⟨rfl,HZ.out⟩
theorem q9B (p : Option Addr) (c : Nat) (w : World) :
  Calls Tryz.prog 107 #[.slice p 0 c,.int .i64 0,.int .i64 0] w fun e w' => e = .returned (.tuple #[]) ∧ w' = w := by
 go_enter Tryz.func107,Tryz.ntmps107
 go_wp2
 go_loopw [6] (fun iv wr => iv = .int .i64 1 ∧ wr = w) (fun _ _ => 0)
 case atStart => exact ⟨rfl,rfl⟩
 case round =>
  obtain ⟨rfl,rfl⟩ := hrel
  go_wp2
  go_end0
  exact ⟨rfl,rfl⟩
theorem q9M (p : Option Addr) (c lim : Nat) (w : World) :
  Calls Tryz.prog 87 #[.slice p 0 c,.int .i64 0,.int .i64 0,.int .i64 (lim : Int)] w fun e w' => e = .returned (.tuple #[]) ∧ w' = w := by
 have hi := q9B p c w
 go_enter Tryz.func87,Tryz.ntmps87
 go_wp2
 go_loopw [1,2] (fun iv jv wr => iv = .int .i64 0 ∧ jv = .int .i64 0 ∧ wr = w) (fun _ _ _ => 0)
 case atStart => exact ⟨rfl,rfl,rfl⟩
 case round =>
  obtain ⟨rfl,rfl,rfl⟩ := hrel
  go_wp2_with fail
  refine hi.mono ?_
  rintro e w0 ⟨rfl,rfl⟩
  go_wp2
  refine bodyPost_ret (results_none rfl _ _ _) rfl ?_
  exact ⟨rfl,rfl⟩
theorem q8c (p : Option Addr) (c : Nat) (w : World) :
  Calls Tryz.prog 61 #[.slice p 0 c] w fun e w' => e = .returned (.tuple #[]) ∧ w' = w := by
 have hb := q4H 0 w (by omega) (by omega)
 have hpq := q9M p c (Go.Lib.bitLen (0 : Int).toNat) w
 generalize Go.Lib.bitLen (0 : Int).toNat = lim at *
 go_enter Tryz.func61,Tryz.ntmps61
 go_wp2_with fail
 refine hb.mono ?_
 rintro e w0 ⟨rfl,hw⟩
 rw [hw]
 clear hw w0
 go_wp2_with fail
 refine hpq.mono ?_
 rintro e w0 ⟨rfl,rfl⟩
 go_wp2
 go_end0
 exact ⟨rfl,rfl⟩
end Go.Proofs.YtailhklbmenaoaaGreatDoor
namespace Go.Proofs.YtailhklbmenaoaaGreatDoor
open Go.RowKit Go.Maps
theorem q1G {w : World} {base e size n : Nat} {v : Value} {xs : List Value} (h : w.ownsRow base e size v n xs) : ∃ a c,v = .slice a n c := by
 rcases h.2 with ⟨rfl,rfl⟩ | ⟨g,cap,cur,rfl,_⟩
 ·exact ⟨none,0,rfl⟩
 ·exact ⟨_,cap,rfl⟩
theorem q4G {w : World} {ops : Array Oper} {rest : List Oper} {o : Oper} {a : Act} {Q : Exit → Act → World → Prop} (hgd : o.guard = none) (s x : Operand)
  (ho : o.op = .call { callee := .builtin .append,args := #[s,x],argTypes := #[46,46] }) (base : Nat)
  (v : Value) (n : Nat) (zs : List Int) (hs : a.eval s = v) (hown : w.ownsRow base 55 1 v n (zs.map (Value.int .u64))) (g' : Nat) (z : Int) (hx : a.eval x = .slice (some ⟨g',0,none⟩) 1 1) (hc : w.cell? ⟨g',0,none⟩ = some (.int .u64 z))
  (hn : n + 1 ≤ 2000000) (hbase : base ≤ w.heap.size)
  (h : ∀ v' w',w'.ownsRow base 55 1 v' (n + 1) ((zs ++ [z]).map (Value.int .u64)) → w.grownBy w' v.ownBlock → wpList Tryz.prog ops Q rest (a.put o.dst v') w') : wpList Tryz.prog ops Q (o :: rest) a w := by
 obtain ⟨i,hi,hz0,hz1,hz2⟩ := info_parts q25
 refine wpList_append_own w hgd s x 46 ho base 55 i _ 1 8 Tryz.underlying46 hi hz0 hz1 hz2 rfl (by decide) v n _ hs hown ⟨g',0,none⟩ 1 1 [.int .u64 z] hx rfl ?_ (fun u hu => by simp at hu; subst hu; rfl) (by unfold maxLen; omega) (by omega) hbase ?_
 ·intro j u hj
  match j with
  | 0 => simp at hj; rw [← hj,qi]; exact hc
  | j + 1 => simp at hj
 ·intro v' w' h1 h2 _
  exact h v' w' (by rw [List.map_append]; exact h1) h2
theorem q9j {w : World} {a : Addr} {n c : Nat} {l : List Nat} (h : USl w (some a) n c l) : ∀ j u,((iU l).map (Value.int .u64))[j]? = some u → w.cell? (a.add j) = some u := by
 intro j u hj
 have hjl : j < (iU l).length := by have := (List.getElem?_eq_some_iff.1 hj).1; simpa using this
 have hc := h.cell j (by rw [← h.hlen]; exact hjl)
 have e : u = .int .u64 ((iU l).getD j 0) := by
  rw [List.getElem?_map,List.getElem?_eq_getElem hjl] at hj
  rw [List.getD_eq_getElem?_getD,List.getElem?_eq_getElem hjl]
  simpa using hj.symm
 rw [e]; exact hc
theorem qgh (m : Nat) : (Builtin.zeroCells (Value.int .u64 0).cells m).toList = List.replicate m (Value.int .u64 0) := by
 have hc : (Value.int .u64 0).cells = #[.int .u64 0] := rfl
 unfold Builtin.zeroCells
 rw [hc]
 refine List.ext_getElem (by simp) fun i h1 h2 => ?_
 simp [Nat.mod_one]
theorem q5I {w : World} {ops : Array Oper} {rest : List Oper} {o : Oper} {a : Act} {Q : Exit → Act → World → Prop} (hgd : o.guard = none) (s y : Operand)
  (ho : o.op = .call { callee := .builtin .append,args := #[s,y],argTypes := #[46,46] }) (g : Nat) (x : Addr) (n c : Nat) (l : List Nat) (hs : a.eval s = .slice (some ⟨g,0,none⟩) 0 0) (hy : a.eval y = .slice (some x) n c) (hU : USl w (some x) n c l) (h0 : 0 < n) (hn : n ≤ 1000000)
  (h : ∀ G w',n ≤ G → G ≤ maxLen → SoAt w' w.heap.size (iU l).toArray (List.replicate (G - n) 0) → Below w.heap.size w w' → wpList Tryz.prog ops Q rest (a.put o.dst (.slice (some ⟨w.heap.size,0,none⟩) n G)) w') : wpList Tryz.prog ops Q (o :: rest) a w := by
 refine wpList_plain hgd fun _ hK => ?_
 obtain ⟨i0,hi,hz0,hz1,hz2⟩ := info_parts q25
 have hln := hU.len
 have hrun : ∀ ty,(Builtin.append_ #[46,46] ty #[.slice (some ⟨g,0,none⟩) 0 0,.slice (some x) n c]).run Tryz.prog w = .ok (.slice (some ⟨w.heap.size,0,none⟩) n (grownCap w n 0 55)) (w.drew.alloc (.cells (((iU l).map (Value.int .u64)).toArray ++ Builtin.zeroCells (Value.int .u64 0).cells (grownCap w n 0 55 - n)) 55)) := fun ty => by
  have h := run_append_grow (P := Tryz.prog) w 46 ty 55 i0 (.int .u64 0) Tryz.underlying46 hi hz0 ⟨g,0,none⟩ 0 0 [] (by simp) (fun j v hj => by simp at hj) x n c ((iU l).map (Value.int .u64)) (by rw [hz1]; simp [hln]) (q9j hU) (by omega) (by omega) (growslice_fits (by omega) (by rw [hz2]; omega))
  simpa using h
 have hG := grownCap_ge w n 0 55
 have hG2 := grownCap_le_maxLen w n 0 55 (by unfold maxLen; omega)
 have hr := hrun o.type
 clear hrun
 generalize grownCap w n 0 55 = G at *
 have HB : Below w.heap.size w (w.drew.alloc (.cells (((iU l).map (Value.int .u64)).toArray ++ Builtin.zeroCells (Value.int .u64 0).cells (G - n)) 55)) := (Below.refl _ w).drew.alloc (Nat.le_refl _) _
 have HS : SoAt (w.drew.alloc (.cells (((iU l).map (Value.int .u64)).toArray ++ Builtin.zeroCells (Value.int .u64 0).cells (G - n)) 55)) w.heap.size (iU l).toArray (List.replicate (G - n) 0) := by
  have h1 := (MapKept.heap_alloc w.drew (.cells (((iU l).map (Value.int .u64)).toArray ++ Builtin.zeroCells (Value.int .u64 0).cells (G - n)) 55)).1
  show _ = _
  refine h1.trans ?_
  refine congrArg some (congrArg (fun c => Obj.cells c 55 (0,0)) (Array.toList_inj.1 ?_))
  rw [Array.toList_append,List.map_append,List.map_replicate,qgh]
 generalize (w.drew.alloc (.cells (((iU l).map (Value.int .u64)).toArray ++ Builtin.zeroCells (Value.int .u64 0).cells (G - n)) 55)) = w2 at *
 unfold Oper.wp execOp
 simp only [ho,resolve,invoke,builtin,Sem.run_bind,Sem.run_pure,Result.andThen_ok,List.map_toArray,List.map_cons,List.map_nil,hs,hy,hr]
 exact hK _ _ (h G w2 hG hG2 HS HB)
def CloU (l : List Nat) (w : World) (e : Ending) (w' : World) : Prop :=
 Below w.heap.size w w' ∧ ((l = [] ∧ ∃ p,e = .returned (.slice p 0 0)) ∨ ∃ G t,l ≠ [] ∧ e = .returned (.slice (some ⟨w.heap.size + 1,0,none⟩) l.length G) ∧ SoAt w' (w.heap.size + 1) (iU l).toArray t ∧ l.length ≤ G ∧ G ≤ maxLen)
theorem q3U (a : Option Addr) (n c : Nat) (l : List Nat) (w : World) (hS : USl w a n c l) (hn : n ≤ 1000000) :
  Calls Tryz.prog 60 #[.slice a n c] w (CloU l w) := by
 have hln := hS.len
 cases a with
 | none =>
  have hc0 := hS.nn rfl
  have hn0 : n = 0 := by have := hS.hcap; omega
  subst hc0 hn0
  have hl : l = [] := List.eq_nil_of_length_eq_zero hln.symm
  subst hl
  clear hln hS hn
  have hnil := fun w => _root_.Go.run_eql_slice_nil (P := Tryz.prog) w 46 55 none 0 0 Tryz.underlying46
  dsimp only [Option.isNone] at hnil
  go_enter Tryz.func60,Tryz.ntmps60
  go_wp2
  go_ret
  exact ⟨Below.refl _ _,Or.inl ⟨rfl,none,rfl⟩⟩
 | some x =>
  obtain ⟨i0,hi,hz0,hz1,hz2⟩ := info_parts q25
  have hnil := fun w => _root_.Go.run_eql_slice_nil (P := Tryz.prog) w 46 55 (some x) n c Tryz.underlying46
  dsimp only [Option.isNone] at hnil
  by_cases h0 : n = 0
  ·subst h0
   have hl : l = [] := List.eq_nil_of_length_eq_zero hln.symm
   subst hl
   have hown := q8A w 55
   have HI : Hid (Tryz.prog.info? 55 = some i0) := hi
   have HZ1 : Hid (i0.size = 1) := hz1
   have HB : Hid (∀ w1,(w.alloc (.cells #[] 55)).grownBy w1 (some w.heap.size) → Below w.heap.size w w1) := fun w1 h2 => ((Below.refl _ _).alloc (Nat.le_refl _) _).grown h2 (by simp) (fun k hk => by cases hk; exact Nat.le_refl _)
   clear hi hz0 hz1 hz2 hS hln hn
   go_enter Tryz.func60,Tryz.ntmps60
   go_wp2_with (at_builtin; refine wpList_append_fits_any _ rfl _ _ 46 rfl w.heap.size 55 i0 1 Tryz.underlying46 HI.out HZ1.out w.heap.size 0 0 [] rfl hown (some x) 0 c [] rfl rfl (fun h => by cases h) (fun _ _ j u hj => by simp at hj) (fun _ h => by cases h) (Nat.le_refl _) ?_)
   intro w1 hown1 hgrow1
   have HE := HB.out w1 hgrow1
   clear hown1 hgrow1 hown
   go_wp2
   go_ret
   exact ⟨HE,Or.inl ⟨rfl,_,rfl⟩⟩
  ·have hl0 : l ≠ [] := fun e => h0 (by rw [hln,e]; rfl)
   have HL : Hid (n = l.length) := hln
   have HU : Hid _ := hS.up (qd w (.cells #[] 55))
   clear hi hz0 hz1 hz2 hS hln
   go_enter Tryz.func60,Tryz.ntmps60
   go_wp2_with (at_builtin; refine q5I rfl _ _ rfl w.heap.size x n c l rfl rfl HU.out (by omega) hn ?_)
   intro G w2 hG hG2 HS HB
   have HS2 : Hid _ := HS
   have HB2 : Hid (Below w.heap.size w w2) := (qd w (.cells #[] 55)).trans (HB.mono (Nat.le_succ _))
   have hgl : Hid (n ≤ G ∧ G ≤ maxLen) := ⟨hG,hG2⟩
   clear HS HB hG hG2 HU
   go_wp2
   go_ret
   exact ⟨HB2.out,Or.inr ⟨G,List.replicate (G - n) 0,hl0,by rw [← HL.out]; simp,HS2.out,by rw [← HL.out]; exact hgl.out.1,hgl.out.2⟩⟩
theorem SoAt.usl {w : World} {g n G : Nat} {s : List Nat} {d : Array Int} {t : List Int} (h : SoAt w g d t) (hd : d.toList = iU s) (hn : s.length = n) (hG : n ≤ G) (hm : G ≤ maxLen) : USl w (some ⟨g,0,none⟩) n G s := by
 have had : ∀ k,adOf (some ⟨g,0,none⟩) k = ⟨g,k,none⟩ := fun k => by simp [adOf,qi]
 have hsz : d.size = n := by rw [← Array.length_toList,hd]; simpa using hn
 refine ⟨by simp [hn],hG,hm,fun m k w hk hm => q1j Tryz.underlying46 q2V (by simp) k w hk,fun k hk => ?_,fun k hk => ?_,by simp⟩
 ·rw [had,h.cell (by omega : k < d.size)]
  congr 2
  rw [← hd,List.getD_eq_getElem?_getD]
  simp [show k < d.size by omega]
 ·rw [had]; exact h.lt
theorem q8K {w : World} {base n : Nat} {v : Value} {l : List Nat} (h : w.ownsRow base 55 1 v n ((iU l).map (Value.int .u64))) : ∃ a c,v = .slice a n c ∧ USl w a n c l := by
 obtain ⟨a,c,h1,h2,_⟩ := qcq h Tryz.underlying46 q2V
 exact ⟨a,c,h1,h2⟩
theorem qfd {w : World} {base n : Nat} {v : Value} {l : List Nat} (h : w.ownsRow base 55 1 v n ((iU l).map (Value.int .u64))) : ∃ a c,v = .slice a n c ∧ USl w a n c l ∧ ∀ k,k < n → base ≤ (adOf a k).block := by
 obtain ⟨a,c,h1,h2,h3,_⟩ := qcq h Tryz.underlying46 q2V
 exact ⟨a,c,h1,h2,h3⟩
def LRN (r : List Nat) (w : World) (e : Ending) (w' : World) : Prop := ∃ (a : Option Addr) (c : Nat),e = .returned (.slice a r.length c) ∧ USl w' a r.length c r ∧ Below w.heap.size w w' ∧ ∀ k,k < r.length → w.heap.size ≤ (adOf a k).block
def LEN (E : Nat) (r : List Nat) (w : World) (e : Ending) (w' : World) : Prop := ∃ (a : Option Addr) (c : Nat),e = .returned (.tuple #[.slice a r.length c,.int .i64 (E : Int)]) ∧ USl w' a r.length c r ∧ Below w.heap.size w w' ∧ ∀ k,k < r.length → w.heap.size ≤ (adOf a k).block
theorem LRN.lr {r : List Nat} {w : World} {e : Ending} {w' : World} (h : LRN r w e w') : LR r w e w' := by
 obtain ⟨a,c,h1,h2,h3,_⟩ := h
 exact ⟨a,c,h1,h2,h3⟩
theorem q8k (l : List Nat) (x : Nat) : iU (l ++ [x]) = iU l ++ [(x : Int)] := by simp [iU]
theorem q2C (a : Option Addr) (n c : Nat) (l : List Nat) (w : World) (hS : USl w a n c l) (sL : Sm l) (hn : n ≤ 1000000) :
  Calls Tryz.prog 36 #[.slice a n c] w (LRN (leastL l) w) := by
 have hln := hS.len
 have hcl := q3U a n c l w hS hn
 have hso : ∀ w1,Below w.heap.size w w1 → ∀ e,CloU l w e w1 → ∃ p G,e = .returned (.slice p n G) ∧ Calls Tryz.prog 61 #[.slice p n G] w1 fun e w2 => e = .returned (.tuple #[]) ∧ ∃ s : List Nat,s.Perm l ∧ s.Pairwise (· ≤ ·) ∧ USl w2 p n G s ∧ Below w.heap.size w w2 := by
  intro w1 hb1 e ⟨hb,hh⟩
  rcases hh with ⟨rfl,p,rfl⟩ | ⟨G,t,h0,rfl,hA,hG1,hG2⟩
  ·obtain rfl : n = 0 := hln
   refine ⟨p,0,rfl,(q8c p 0 w1).mono ?_⟩
   rintro e w2 ⟨rfl,rfl⟩
   refine ⟨rfl,[],List.Perm.refl _,List.Pairwise.nil,?_,hb⟩
   exact ⟨rfl,Nat.le_refl _,Nat.zero_le _,fun m k w hk hm => absurd hk (by omega),fun k hk => absurd hk (by omega),fun k hk => absurd hk (by omega),fun _ => rfl⟩
  ·have hsz : (iU l).toArray.size = n := by simp [hln]
   have h := q9W (w.heap.size + 1) G (iU l).toArray t w1 hA (by rw [hsz]; exact hn)
   rw [hsz] at h
   refine ⟨some ⟨w.heap.size + 1,0,none⟩,G,by rw [← hln],h.mono ?_⟩
   rintro e w2 ⟨rfl,d,hp,hu,h2,hg⟩
   obtain ⟨s,hs1,hs2,hs3⟩ := qeX (l := l) (d := d.toList) (by simpa [iU] using hp) hu
   refine ⟨rfl,s,hs2,hs3,h2.usl hs1 (by rw [hs2.length_eq,hln]) (by rw [hln]; exact hG1) hG2,?_⟩
   exact hb.grown hg hb.size (fun k hk => by cases hk; omega)
 have HSO : Hid _ := hso
 have HP : Hid (∀ s : List Nat,s.Perm l → Sm s ∧ s.length = n ∧ leastL s = leastL l) := fun s h => ⟨fun x hx => sL x (h.mem_iff.1 hx),by rw [h.length_eq,hln],qcY h⟩
 clear hS sL hso hln
 go_enter Tryz.func36,Tryz.ntmps36
 go_wp2_with fail
 refine hcl.mono ?_
 intro e w1 hC
 obtain ⟨p,G,rfl,hsort⟩ := HSO.out w1 hC.1 e hC
 clear hC hcl HSO
 go_wp2_with fail
 refine hsort.mono ?_
 rintro e w2 ⟨rfl,s,hs1,hs2,hU,hB⟩
 clear hsort
 obtain ⟨sS,sN,sL2⟩ := HP.out s hs1
 clear HP hs1
 have HT : Hid (∀ k,k < n → leastL (s.take (k + 1)) = if hoB (leastL (s.take k)) (s.getD k 0) then leastL (s.take k) else leastL (s.take k) ++ [s.getD k 0]) := fun k hk => qcZ hs2 (by omega)
 have HE : Hid (leastL (s.take n) = leastL l) := by show _ = _; rw [List.take_of_length_le (by omega)]; exact sL2
 have HM : Hid (∀ k,Sm (leastL (s.take k)) ∧ (leastL (s.take k)).length ≤ n) := fun k => ⟨fun x hx => sS x (List.mem_of_mem_take (q2y hx)),by have := q4y (s.take k); rw [List.length_take] at this; omega⟩
 have HC : Hid (∀ k,k < n → ∀ wr,Below w2.heap.size w2 wr → wr.cell? (adOf p k) = some (.int .u64 ((s.getD k 0 : Nat) : Int))) := fun k hk wr hb => by
  rw [(hU.up hb).cell k hk]
  congr 2
  simp only [List.getD_eq_getElem?_getD,iU,List.getElem?_map]
  cases s[k]? <;> rfl
 have HX : Hid (∀ k,k < n → s.getD k 0 < 2 ^ 64) := fun k hk => by
  have hk' : k < s.length := by omega
  rw [List.getD_eq_getElem?_getD,List.getElem?_eq_getElem hk']
  exact sS _ (List.getElem_mem hk')
 have hidx := fun (k : Nat) (w : World) (h : k < n) => hU.idx n k w h (Nat.le_refl _)
 have HB0 : Hid (Below w.heap.size w w2) := hB
 clear hU hs2 sS sN sL2 hB
 go_wp2
 go_loopw [4,13] (fun v i wr => ∃ k : Nat,k ≤ n ∧ i = .int .i64 (k : Int) ∧ Hid (wr.ownsRow w2.heap.size 55 1 v (leastL (s.take k)).length ((iU (leastL (s.take k))).map (Value.int .u64))) ∧ Hid (Below w2.heap.size w2 wr)) (fun _ i _ => n - (intOf i).toNat)
 case atStart => exact ⟨0,Nat.zero_le _,rfl,⟨rfl,Or.inl ⟨rfl,rfl⟩⟩,Below.refl _ _⟩
 case round =>
  obtain ⟨k,hk,rfl,HO,HW⟩ := hrel
  obtain ⟨va,vc,rfl,hUs⟩ := q8K HO.out
  by_cases hlt : k < n
  ·have hc := HC.out k hlt wr HW.out
   have hx := fun w' => hidx k w' hlt
   have hho := q2B va _ vc _ (s.getD k 0) wr hUs (HM.out k).1 (HX.out k hlt)
   have HS : Hid _ := HT.out k hlt
   have hb := (HM.out k).2
   clear HC HX HT HM hidx hUs
   generalize s.getD k 0 = x at *
   have HL : Hid (leastL (s.take k) = leastL (s.take k)) := rfl
   generalize hq : leastL (s.take k) = r at *
   clear HL
   by_cases hh : hoB r x = true
   ·rw [hh] at hho
    have HSE : Hid (leastL (s.take (k + 1)) = r) := by show _ = _; rw [HS.out,if_pos hh]
    clear HS hh
    go_wp2_with fail
    refine hho.mono ?_
    rintro e w3 ⟨rfl,hb3⟩
    have HO3 : Hid _ := q1g HO.out hb3
    have HW3 : Hid _ := HW.out.trans (hb3.mono HW.out.size)
    clear hho HO HW hb3
    go_wp2
    go_roundw
    case rel => exact ⟨k + 1,by omega,by go_num,by rw [HSE.out]; exact HO3,HW3⟩
    case measure => simp [intOf]; omega
   ·have hh2 : hoB r x = false := by cases h : hoB r x; rfl; exact absurd h hh
    rw [hh2] at hho
    have HSE : Hid (leastL (s.take (k + 1)) = r ++ [x]) := by show _ = _; rw [HS.out,if_neg hh]
    clear HS hh hh2
    go_wp2_with fail
    refine hho.mono ?_
    rintro e w3 ⟨rfl,hb3⟩
    have HO3 : Hid _ := q1g HO.out hb3
    have HW3 : Hid (Below w2.heap.size w2 w3) := HW.out.trans (hb3.mono HW.out.size)
    clear hho HO HW hb3
    have HOA : Hid ((w3.alloc (.cells #[.int .u64 (x : Int)] 55)).ownsRow w2.heap.size 55 1 (.slice va r.length vc) r.length ((iU r).map (Value.int .u64))) := World.ownsRow.alloc HO3.out _
    have HCA : Hid ((w3.alloc (.cells #[.int .u64 (x : Int)] 55)).cell? ⟨w3.heap.size,0,none⟩ = some (.int .u64 (x : Int))) := qb (MapKept.heap_alloc w3 _).1 0
    have HWA : Hid (Below w2.heap.size w2 (w3.alloc (.cells #[.int .u64 (x : Int)] 55))) := HW3.out.alloc HW3.out.size _
    have hszA : w2.heap.size ≤ (w3.alloc (.cells #[.int .u64 (x : Int)] 55)).heap.size := HWA.out.size
    have HGE : Hid (∀ q,(Value.slice va r.length vc).ownBlock = some q → w2.heap.size ≤ q) := q2z HO3.out
    clear HO3 HW3
    go_wp2_with (at_builtin; refine q4G rfl _ _ rfl w2.heap.size _ r.length (iU r) rfl HOA.out w3.heap.size (x : Int) rfl HCA.out (by omega) hszA ?_)
    intro v7 w7 hown7 hgr7
    have HO7 : Hid (w7.ownsRow w2.heap.size 55 1 v7 (r.length + 1) ((iU r ++ [(x : Int)]).map (Value.int .u64))) := by show World.ownsRow _ _ _ _ _ _ _; simpa using hown7
    have HW7 : Hid (Below w2.heap.size w2 w7) := HWA.out.grown hgr7 hszA (fun q e => HGE.out q e)
    clear hown7 hgr7 HOA HCA HWA hszA HGE
    go_wp2
    go_roundw
    case rel =>
     refine ⟨k + 1,by omega,by go_num,?_,HW7⟩
     show World.ownsRow _ _ _ _ _ _ _
     rw [HSE.out,List.length_append,q8k]
     exact HO7.out
    case measure => simp [intOf]; omega
  ·obtain rfl : k = n := by omega
   obtain ⟨va2,vc2,hv2,hU2,hf2⟩ := qfd HO.out
   injection hv2 with hv2 _ hv3
   subst hv2 hv3
   have HUs : Hid _ := hUs
   have HFS : Hid _ := hf2
   clear hUs hU2 hf2
   go_wp2
   go_ret
   refine ⟨va,vc,?_,?_,qe HB0.out HW.out,?_⟩
   ·rw [← HE.out]; rfl
   ·rw [← HE.out]; exact HUs.out
   ·rw [← HE.out]; exact fun k hk => Nat.le_trans HB0.out.size (HFS.out k hk)
theorem q7U (a : Option Addr) (n c : Nat) (l : List Nat) (w : World) (hS : USl w a n c l) (sL : Sm l) (hn : n ≤ 1000000) :
  Calls Tryz.prog 36 #[.slice a n c] w (LR (leastL l) w) := (q2C a n c l w hS sL hn).mono fun _ _ h => h.lr
end Go.Proofs.YtailhklbmenaoaaGreatDoor
