/- Texts of the proof, put together: what it uses. -/
import Derived.ShutString
import Derived.ChangeOld
import Derived.Lib.SmallJoins
import Derived.Test.YthhbhadcjofelaaZ03
import Derived.Test.YthhbhadcjofelaaZ07
import Derived.Test.YthhbhadcjofelaaZ08
set_option maxRecDepth 100000
set_option maxHeartbeats 16000000
namespace Go.Proofs.Ythhbhadcjofelaa
open Go.ChangeShapes Go.WideShapes Go.ChangeAt Go.RowKit Go.Joins
open Go.ChangeMaps (open_string shut_string)
theorem qP : Try.prog.cellsOf 27 = 1 := by kernel_rfl
theorem q35 {H : Type} {enc : TypeId × Value → H} {W : World} {a : Option Addr} {len cap : Nat} {d : DataW H} {p : List MemPlace}
  (h : DataW.Trod enc Try.prog W 0 (fun _ => true) true 31 (.slice a len cap) d p) : ∃ zs,IntSl Try.prog 31 .u8 W a len cap zs ∧ ∀ z ∈ zs,0 ≤ z ∧ z < 256 := by
 obtain ⟨fuel,hf⟩ := h
 rcases open_ints Try.underlying31 Try.underlying27 qP hf with ⟨hcs,_⟩ | ⟨x,l,c,zs,hcs,_,hl,hm,hz,_,hcell,hwz⟩
 ·simp [Value.cells] at hcs
  obtain ⟨rfl,rfl,rfl⟩ := hcs
  exact ⟨[],qK,fun z hz => by simp at hz⟩
 ·simp [Value.cells] at hcs
  obtain ⟨rfl,rfl,rfl⟩ := hcs
  simp only [if_true] at hz
  have hc : ∀ k,k < len → W.cell? (adOf (some x) k) = some (.int .u8 ((zs.take len).getD k 0)) := fun k hk => by
   have := hcell k (by omega)
   simp only [adOf]
   rw [this]; simp [List.getD_eq_getElem?_getD,hk]
  refine ⟨zs.take len,⟨by simp; omega,hl,hm,fun n k w hk hn => qk Try.underlying31 q1q (by simp) k w hk,hc,fun k hk => World.block_lt_of_cell? W _ (hc k hk),by simp⟩,fun z hz => ?_⟩
  have := bounds_u8 (hwz z (List.mem_of_mem_take hz)); omega
theorem q11 : Try.prog.cellsOf 29 = 2 := by kernel_rfl
theorem q14 {H : Type} {enc : TypeId × Value → H} {W : World} {base : Nat} {v : Value} {d : DataW H} {p : List MemPlace}
  (hv : Value.okWide Try.prog W .any base 29 v) (h : DataW.Trod enc Try.prog W 0 (fun _ => true) true 29 v d p) :
  ∃ a b : Nat,a < 256 ∧ b < 256 ∧ v = .agg #[.int .u8 (a : Int),.int .u8 (b : Int)] ∧ p = [] ∧ ∀ (W' : World) (sp : Nat → Bool),DataW.Trod enc Try.prog W' 0 sp true 29 v d [] := by
 obtain ⟨c0,c1,y0,y1,m,rfl,rfl,rfl,hy0,hy1⟩ := open_agg2 Try.underlying29 (by kernel_rfl) q11 hv h
 obtain ⟨a,e0,rfl,wa⟩ := DataW.trod_int Try.underlying27 hy0
 obtain ⟨b,e1,rfl,wb⟩ := DataW.trod_int Try.underlying27 hy1
 simp at e0 e1
 subst e0 e1
 have ha := bounds_u8 wa
 have hb := bounds_u8 wb
 obtain ⟨a,rfl⟩ := Int.eq_ofNat_of_zero_le (show 0 ≤ a by omega)
 obtain ⟨b,rfl⟩ := Int.eq_ofNat_of_zero_le (show 0 ≤ b by omega)
 exact ⟨a,b,by omega,by omega,rfl,rfl,fun W' sp => shut_agg2 (y0 := (.lit (.int .u8 (a : Int)),[])) (y1 := (.lit (.int .u8 (b : Int)),[])) Try.underlying29 (by kernel_rfl) q11 ⟨1,by simp [DataW.trod,Try.underlying27,wa]⟩ ⟨1,by simp [DataW.trod,Try.underlying27,wb]⟩⟩
theorem q2W : Try.prog.cellsOf 33 = 4 := by kernel_rfl
theorem q1e : Try.prog.cellsOf 31 = 1 := by kernel_rfl
theorem q1U {H : Type} {enc : TypeId × Value → H} {W : World} {a : Option Addr} {len cap : Nat} {d : DataW H} {p : List MemPlace}
  (h : DataW.Trod enc Try.prog W 0 (fun _ => true) true 31 (.slice a len cap) d p) : ∃ ts : List Nat,LtC W a len cap ts ∧ ∀ z ∈ ts,z < 256 := by
 obtain ⟨zs,h1,h2⟩ := q35 h
 have e : (zs.map Int.toNat).map Int.ofNat = zs := by
  rw [List.map_map]
  conv => rhs; rw [← List.map_id zs]
  exact List.map_congr_left fun z hz => by have := h2 z hz; simp; omega
 refine ⟨zs.map Int.toNat,by rw [LtC,e]; exact h1,fun z hz => ?_⟩
 obtain ⟨y,hy,rfl⟩ := List.mem_map.1 hz
 have := h2 y hy
 omega
theorem q3v {H : Type} {enc : TypeId × Value → H} {W : World} {a : Option Addr} {len cap : Nat} {d : DataW H} {p : List MemPlace}
  (h : DataW.Trod enc Try.prog W 0 (fun _ => true) true 30 (.slice a len cap) d p) : ∃ rs,LlSl W a len cap rs := by
 obtain ⟨fuel,hf⟩ := h
 rcases Go.Deep.open_slice1 Try.underlying30 q1e hf with ⟨hcs,_⟩ | ⟨x,l,c,m,n,V,D,Pl,hcs,_,hl,hm,hmm,_,hx⟩
 ·simp [Value.cells] at hcs
  obtain ⟨rfl,rfl,rfl⟩ := hcs
  exact ⟨[],⟨rfl,Nat.le_refl _,Nat.zero_le _,fun _ => rfl,fun x hx => (by cases hx),fun r hr => (by simp at hr)⟩⟩
 ·simp [Value.cells] at hcs
  obtain ⟨rfl,rfl,rfl⟩ := hcs
  simp only [if_true] at hmm
  have key : ∀ i,i < len → ∃ r : Lc,V i = .slice r.a r.len r.cap ∧ LtC W r.a r.len r.cap r.ts ∧ ∀ z ∈ r.ts,z < 256 := fun i hi => by
   have h2 := (hx i (by omega)).2
   have hsh : ∃ b l c,V i = .slice b l c := by
    rcases open_ints Try.underlying31 Try.underlying27 qP h2 with ⟨hcs,_⟩ | ⟨x,l,c,_,hcs,_⟩
    ·simp at hcs; exact ⟨_,_,_,hcs⟩
    ·simp at hcs; exact ⟨_,_,_,hcs⟩
   obtain ⟨b,l,c,hV⟩ := hsh
   rw [hV] at h2
   obtain ⟨ts,hts,hok⟩ := q1U (W := W) (a := b) (len := l) (cap := c) ⟨n,h2⟩
   exact ⟨⟨b,l,c,ts⟩,hV,hts,hok⟩
  haveI : Inhabited Lc := ⟨⟨none,0,0,[]⟩⟩
  obtain ⟨y,hy⟩ := Go.Deep.choose_lt key
  refine ⟨(List.range len).map y,⟨by simp,hl,hm,fun hn => (by cases hn),fun z hz k hk => ?_,fun r hr => ?_⟩⟩
  ·injection hz with hz; subst hz
   simp at hk
   have h1 := (hx k (by omega)).1
   rw [(hy k hk).1] at h1
   simpa using h1
  ·obtain ⟨i,hi,rfl⟩ := List.mem_map.1 hr
   exact (hy i (List.mem_range.1 hi)).2
theorem q2i {H : Type} {enc : TypeId × Value → H} {W : World} {base : Nat} {v : Value} {d : DataW H} {p : List MemPlace}
  (hv : Value.okWide Try.prog W .any base 33 v) (h : DataW.Trod enc Try.prog W 0 (fun _ => true) true 33 v d p) :
  ∃ (aR : Option Addr) (nR cR : Nat) (aP : Option Addr) (nP cP : Nat) (aC : Option Addr) (nC cC : Nat) (u : SgX),v = .agg #[.bool u.wins,.slice aR nR cR,.slice aP nP cP,.slice aC nC cC] ∧ SgW W aR nR cR aP nP cP aC nC cC u := by
 obtain ⟨cs,rfl,hsz⟩ := okWide_struct Try.underlying33 hv
 obtain ⟨v0,v1,v2,v3,rfl⟩ := q42 (hsz.trans q2W)
 obtain ⟨fuel,hf⟩ := h
 obtain ⟨xs,k,hk,hxy,_,hxl,hfd⟩ := DataW.trod_struct Try.underlying33 hf
 match xs,hxl with
 | [y0,y1,y2,y3],_ =>
  have g0 := hfd 0 _ rfl
  have g1 := hfd 1 _ rfl
  have g2 := hfd 2 _ rfl
  have g3 := hfd 3 _ rfl
  have k0 : Try.prog.cellsOf 4 = 1 := by kernel_rfl
  have k2 : Try.prog.cellsOf 30 = 1 := by kernel_rfl
  simp [Value.cells,k0,k2,q10,q1e] at g0 g1 g2 g3
  obtain ⟨b,q0,_⟩ := DataW.trod_bool Try.underlying4 g0
  simp at q0
  subst q0
  have s1 : ∃ a l c,v1 = .slice a l c := by
   rcases open_ints Try.underlying23 Try.underlying3 qr g1 with ⟨hcs,_⟩ | ⟨x,l,c,_,hcs,_⟩
   ·simp at hcs; exact ⟨_,_,_,hcs⟩
   ·simp at hcs; exact ⟨_,_,_,hcs⟩
  have s2 : ∃ a l c,v2 = .slice a l c := by
   rcases Go.Deep.open_slice Try.underlying30 g2 with ⟨hcs,_⟩ | ⟨x,l,c,_,_,_,_,hcs,_⟩
   ·simp at hcs; exact ⟨_,_,_,hcs⟩
   ·simp at hcs; exact ⟨_,_,_,hcs⟩
  have s3 : ∃ a l c,v3 = .slice a l c := by
   rcases open_ints Try.underlying31 Try.underlying27 qP g3 with ⟨hcs,_⟩ | ⟨x,l,c,_,hcs,_⟩
   ·simp at hcs; exact ⟨_,_,_,hcs⟩
   ·simp at hcs; exact ⟨_,_,_,hcs⟩
  obtain ⟨a1,l1,c1,rfl⟩ := s1
  obtain ⟨a2,l2,c2,rfl⟩ := s2
  obtain ⟨a3,l3,c3,rfl⟩ := s3
  obtain ⟨R,hR,hRi⟩ := qM ⟨_,g1⟩
  obtain ⟨rs,hP⟩ := q3v ⟨_,g2⟩
  obtain ⟨cs,hC,hCi⟩ := q1U ⟨_,g3⟩
  exact ⟨a1,l1,c1,a2,l2,c2,a3,l3,c3,⟨b,R,rs.map Lc.ts,cs⟩,rfl,hR,hRi,⟨rs,hP,rfl⟩,hC,hCi⟩
end Go.Proofs.Ythhbhadcjofelaa
