/- The law TermTells, on. -/
import Derived.Test.YtgnhccjcokhmhaaWTl4
import Derived.Test.YtgnhccjcokhmhaaTermU
namespace Go.Proofs.Ytgnhccjcokhmhaa
open Go.RowKit Go.Maps

def frmL (ts : List Tk) : List Int := if lookE ts 4 = 0 then (allP ts).map (fun p => (p.frm : Int)) else []
def depL (ts : List Tk) : List Int := if lookE ts 4 = 0 then (allP ts).map (fun p => (p.dep : Int)) else []
theorem frmL_ok (ts : List Tk) : (frmL ts).length ≤ 1000 ∧ ∀ z ∈ frmL ts, 0 ≤ z ∧ z < 1048576 := by
  unfold frmL
  by_cases h : lookE ts 4 = 0
  · rw [if_pos h]
    have h1 := allP_len h
    have h2 := (lookE_zero.1 h).1
    refine ⟨by simp; omega, fun z hz => ?_⟩
    obtain ⟨p, hp, rfl⟩ := List.mem_map.1 hz
    obtain ⟨k, hk, rfl⟩ := List.getElem_of_mem hp
    have h3 := frmAt_le h (k := k) (by omega)
    unfold frmAt at h3
    rw [List.getElem?_eq_getElem hk] at h3
    simp at h3
    omega
  · rw [if_neg h]; exact ⟨by simp, fun z hz => by simp at hz⟩
theorem depL_ok (ts : List Tk) : (depL ts).length ≤ 1000 ∧ ∀ z ∈ depL ts, 0 ≤ z ∧ z < 1048576 := by
  unfold depL
  by_cases h : lookE ts 4 = 0
  · rw [if_pos h]
    have h1 := allP_len h
    have h2 := (lookE_zero.1 h).1
    refine ⟨by simp; omega, fun z hz => ?_⟩
    obtain ⟨p, hp, rfl⟩ := List.mem_map.1 hz
    obtain ⟨_, t, hw, rfl, _, hd⟩ := lookE_zero.1 h
    rw [allP_tree hw] at hp
    have := parts_dep t 0 p hp
    omega
  · rw [if_neg h]; exact ⟨by simp, fun z hz => by simp at hz⟩
theorem dec_self (l : List Int) : decide (l = l) = true := decide_eq_true rfl
set_option maxRecDepth 100000 in
set_option maxHeartbeats 4000000 in
theorem Try.termTells_go (a : Option Addr) (len cap : Nat) (ts : List Tk) (w : World) (hT : TkSl w a len cap ts) (h : ¬ ((200 < len ∧ len ≤ 512) ∨ 517 < len)) :
    Calls Try.prog 3 #[.slice a len cap] w fun e w' => e = .returned (.bool true) ∧ Below w.heap.size w w' := by
  have hlg := Try.large_f a len cap w h
  have hlen := hT.hlen
  have hok := hT.ok
  have hl20 : len ≤ 100000 := by omega
  have hle := Try.lentT_any a len cap ts w hT hl20
  have hF := frmL_ok ts
  have hD := depL_ok ts
  have hTk : Hid (TkSl w a len cap ts) := hT
  have hsl : Hid (∀ g w', RowT w' 50 g (lentT ts) → TkSl w' (some ⟨g, 0, none⟩) len (len + 3) ts) := fun g w' h => lentT_slen h hlen hl20 hok
  have hB := fun aa cc w' (h : TkSl w' aa len cc ts) => Try.blocksX_any aa len cc ts w' h
  have hDp := fun aa cc w' (h : TkSl w' aa len cc ts) => Try.depthsX_any aa len cc ts w' h
  have hrB := fun w' (h : TkSl w' a len cap ts) => Try.rBlocks_any a len cap ts w' h
  have hrD := fun w' (h : TkSl w' a len cap ts) => Try.rDepths_any a len cap ts w' h
  have hP := fun aa cc w' (h : TkSl w' aa len cc ts) => Try.props_any aa len cc ts w' h
  have hrP := fun w' (h : TkSl w' a len cap ts) => Try.rProps_any a len cap ts w' h
  have hPl := fun aa cc w' (h : TkSl w' aa len cc ts) => Try.plain_any aa len cc ts w' h
  have hrPl := fun w' (h : TkSl w' a len cap ts) => Try.rPlain_any a len cap ts w' h
  have hC := fun aa cc w' (h : TkSl w' aa len cc ts) => Try.check_any aa len cc ts w' h
  have hrC := fun w' (h : TkSl w' a len cap ts) => Try.rCheck_any a len cap ts w' h
  have hPa := fun aa cc w' (h : TkSl w' aa len cc ts) => Try.path_any aa len cc ts w' h
  have hrPa := fun w' (h : TkSl w' a len cap ts) => Try.rPath_any a len cap ts w' h
  have hK := fun g w' (h1 : RowT w' 50 g (lentT ts)) (h2 : TkSl w' a len cap ts) => Try.keptT_any g len a cap ts w' h1 h2 hl20
  have hXB : ∀ {w' w'' : World} {e : Ending}, IntsX 3 (lookE ts 4) ((allP ts).map fun p => (p.frm : Int)) w' e w'' → ∃ a, e = .returned (.tuple #[.slice a (frmL ts).length (frmL ts).length, .int .i64 (lookE ts 4 : Int)]) ∧ RowOfI w'' 3 a (frmL ts) ∧ ∀ b, a.map (·.block) = some b → w'.heap.size ≤ b := fun h => intsX_row h
  have hXD : ∀ {w' w'' : World} {e : Ending}, IntsX 3 (lookE ts 4) ((allP ts).map fun p => (p.dep : Int)) w' e w'' → ∃ a, e = .returned (.tuple #[.slice a (depL ts).length (depL ts).length, .int .i64 (lookE ts 4 : Int)]) ∧ RowOfI w'' 3 a (depL ts) ∧ ∀ b, a.map (·.block) = some b → w'.heap.size ≤ b := fun h => intsX_row h
  have hRB : ∀ {w' w'' : World} {e : Ending}, IntsR 3 (lookE ts 4) ((allP ts).map fun p => (p.frm : Int)) w' e w'' → ∃ a cap, e = .returned (.tuple #[.slice a (frmL ts).length cap, .int .i64 (lookE ts 4 : Int)]) ∧ IntSl Try.prog 25 .i64 w'' a (frmL ts).length cap (frmL ts) := fun h => intsR_sl h Try.underlying25 Try.sizeInt
  have hRD : ∀ {w' w'' : World} {e : Ending}, IntsR 3 (lookE ts 4) ((allP ts).map fun p => (p.dep : Int)) w' e w'' → ∃ a cap, e = .returned (.tuple #[.slice a (depL ts).length cap, .int .i64 (lookE ts 4 : Int)]) ∧ IntSl Try.prog 25 .i64 w'' a (depL ts).length cap (depL ts) := fun h => intsR_sl h Try.underlying25 Try.sizeInt
  generalize (decide (lookE ts 1 = 0) && ((allP ts).getLast?.map (·.plain)).getD false) = pl at *
  generalize (if lookE ts 4 = 0 then propsI ts 0 else 0) = pr at *
  generalize ((allP ts).map fun p => (p.frm : Int)) = zs at *
  generalize ((allP ts).map fun p => (p.dep : Int)) = ys at *
  generalize frmL ts = fl at *
  generalize depL ts = dl at *
  generalize lookE ts 1 = E1 at *
  generalize lookE ts 3 = E3 at *
  generalize lookE ts 4 = E4 at *
  generalize len + 3 = C at *
  have HF : Hid _ := hF
  have HD : Hid _ := hD
  clear hF hD
  go_enter Try.func3, Try.ntmps3
  go_wp2_with fail
  refine hlg.mono ?_
  rintro e w0 ⟨rfl, rfl⟩
  go_wp2_with fail
  refine hle.mono ?_
  rintro e w1 ⟨rfl, hR1, hb1⟩
  have HR : Hid (∀ w', Below w1.heap.size w1 w' → RowT w' 50 w0.heap.size (lentT ts)) := fun w' hb => hR1.up hb
  have HI : Hid (∀ w', Below w1.heap.size w1 w' → TkSl w' (some ⟨w0.heap.size, 0, none⟩) len C ts) := fun w' hb => hsl.out _ _ (hR1.up hb)
  clear hlg hle hsl h
  go_wp2_with fail
  refine (hB _ _ _ (HI.out _ (Below.refl _ _))).mono ?_
  rintro e w2 ⟨hx, hw2⟩
  obtain ⟨aA, rfl, hrA, hgA⟩ := hXB hx
  clear hx
  go_wp2_with fail
  refine (hB _ _ _ (HI.out _ hw2)).mono ?_
  rintro e w3 ⟨hx, hw3⟩
  obtain ⟨aB, rfl, hrB3, hgB⟩ := hXB hx
  have hb3 := below_step hw2 hw3
  have hrA3 := hrA.up hw3
  have hltA := hrA.lt
  clear hx hXB hB
  go_wp2_with fail
  refine (hrB _ (hTk.out.up (below_step hb1 hb3))).mono ?_
  rintro e w4 ⟨hx, hw4⟩
  obtain ⟨aW, cW, rfl, hrW⟩ := hRB hx
  have hb4 := below_step hb3 hw4
  have hrA4 := hrA3.up hw4
  have hrB4 := hrB3.up hw4
  have hltB := hrB3.lt
  clear hx hRB hrB hrA hrA3 hrB3 hb3
  go_wp2_with fail
  refine (hDp _ _ _ (HI.out _ hb4)).mono ?_
  rintro e w5 ⟨hx, hw5⟩
  obtain ⟨aC, rfl, hrC5, hgC⟩ := hXD hx
  have hb5 := below_step hb4 hw5
  have hrA5 := hrA4.up hw5
  have hrB5 := hrB4.up hw5
  have hrW5 := hrW.up hw5
  have hsz34 := hw4.size
  have hsz23 := hw3.size
  clear hx hXD hDp hrA4 hrB4 hrW hb4 hw5 hw4 hw3
  go_wp2_with fail
  refine (hrD _ (hTk.out.up (below_step hb1 hb5))).mono ?_
  rintro e w6 ⟨hx, hw6⟩
  obtain ⟨aD, cD, rfl, hrD6⟩ := hRD hx
  have hb6 := below_step hb5 hw6
  have hrA6 := hrA5.up hw6
  have hrB6 := hrB5.up hw6
  have hrW6 := hrW5.up hw6
  have hrC6 := hrC5.up hw6
  clear hx hRD hrD hrA5 hrB5 hrW5 hrC5 hb5 hw6
  go_wp2_with fail
  refine (hP _ _ _ (HI.out _ hb6)).mono ?_
  rintro e w7 ⟨rfl, hw7⟩
  have hb7 := below_step hb6 hw7
  have hrA7 := hrA6.up hw7
  have hrB7 := hrB6.up hw7
  have hrW7 := hrW6.up hw7
  have hrC7 := hrC6.up hw7
  have hrD7 := hrD6.up hw7
  clear hrA6 hrB6 hrW6 hrC6 hrD6 hb6 hw7 hP
  go_wp2_with fail
  refine (hrP _ (hTk.out.up (below_step hb1 hb7))).mono ?_
  rintro e w8 ⟨rfl, hw8⟩
  have hb8 := below_step hb7 hw8
  have hrA8 := hrA7.up hw8
  have hrB8 := hrB7.up hw8
  have hrW8 := hrW7.up hw8
  have hrC8 := hrC7.up hw8
  have hrD8 := hrD7.up hw8
  clear hrA7 hrB7 hrW7 hrC7 hrD7 hb7 hw8 hrP
  go_wp2_with fail
  refine (hPl _ _ _ (HI.out _ hb8)).mono ?_
  rintro e w9 ⟨rfl, hw9⟩
  have hb9 := below_step hb8 hw9
  have hrA9 := hrA8.up hw9
  have hrB9 := hrB8.up hw9
  have hrW9 := hrW8.up hw9
  have hrC9 := hrC8.up hw9
  have hrD9 := hrD8.up hw9
  clear hrA8 hrB8 hrW8 hrC8 hrD8 hb8 hw9 hPl
  go_wp2_with fail
  refine (hrPl _ (hTk.out.up (below_step hb1 hb9))).mono ?_
  rintro e w10 ⟨rfl, hw10⟩
  have hb10 := below_step hb9 hw10
  have hrA10 := hrA9.up hw10
  have hrB10 := hrB9.up hw10
  have hrW10 := hrW9.up hw10
  have hrC10 := hrC9.up hw10
  have hrD10 := hrD9.up hw10
  clear hrA9 hrB9 hrW9 hrC9 hrD9 hb9 hw10 hrPl
  go_wp2_with fail
  refine (hC _ _ _ (HI.out _ hb10)).mono ?_
  rintro e w11 ⟨rfl, hw11⟩
  have hb11 := below_step hb10 hw11
  have hrA11 := hrA10.up hw11
  have hrB11 := hrB10.up hw11
  have hrW11 := hrW10.up hw11
  have hrC11 := hrC10.up hw11
  have hrD11 := hrD10.up hw11
  clear hrA10 hrB10 hrW10 hrC10 hrD10 hb10 hw11 hC
  go_wp2_with fail
  refine (hrC _ (hTk.out.up (below_step hb1 hb11))).mono ?_
  rintro e w12 ⟨rfl, hw12⟩
  have hb12 := below_step hb11 hw12
  have hrA12 := hrA11.up hw12
  have hrB12 := hrB11.up hw12
  have hrW12 := hrW11.up hw12
  have hrC12 := hrC11.up hw12
  have hrD12 := hrD11.up hw12
  clear hrA11 hrB11 hrW11 hrC11 hrD11 hb11 hw12 hrC
  go_wp2_with fail
  refine (hPa _ _ _ (HI.out _ hb12)).mono ?_
  rintro e w13 ⟨rfl, hw13⟩
  have hb13 := below_step hb12 hw13
  have hrA13 := hrA12.up hw13
  have hrB13 := hrB12.up hw13
  have hrW13 := hrW12.up hw13
  have hrC13 := hrC12.up hw13
  have hrD13 := hrD12.up hw13
  clear hrA12 hrB12 hrW12 hrC12 hrD12 hb12 hw13 hPa
  go_wp2_with fail
  refine (hrPa _ (hTk.out.up (below_step hb1 hb13))).mono ?_
  rintro e w14 ⟨rfl, hw14⟩
  have hb14 := below_step hb13 hw14
  have hrA14 := hrA13.up hw14
  have hrB14 := hrB13.up hw14
  have hrW14 := hrW13.up hw14
  have hrC14 := hrC13.up hw14
  have hrD14 := hrD13.up hw14
  clear hrA13 hrB13 hrW13 hrC13 hrD13 hb13 hw14 hrPa
  have hlF : fl.length ≤ maxLen := by have := HF.out.1; unfold maxLen; omega
  have hlD : dl.length ≤ maxLen := by have := HD.out.1; unfold maxLen; omega
  have hsA := Try.sameI_any _ _ _ _ _ _ _ _ _ (hrA14.intSl Try.underlying25 Try.sizeInt hlF) hrW14
  rw [dec_self] at hsA
  go_wp2_with fail
  refine hsA.mono ?_
  rintro e w15 ⟨rfl, hq15⟩
  have hw15 := below_of_drew hq15
  have hb15 := below_step hb14 hw15
  have hrA15 := hrA14.up hw15
  have hrB15 := hrB14.up hw15
  have hrW15 := hrW14.up hw15
  have hrC15 := hrC14.up hw15
  have hrD15 := hrD14.up hw15
  clear hrA14 hrB14 hrW14 hrC14 hrD14 hb14 hw15 hq15 hsA
  have hsB := Try.sameI_any _ _ _ _ _ _ _ _ _ (hrB15.intSl Try.underlying25 Try.sizeInt hlF) hrW15
  rw [dec_self] at hsB
  go_wp2_with fail
  refine hsB.mono ?_
  rintro e w16 ⟨rfl, hq16⟩
  have hw16 := below_of_drew hq16
  have hb16 := below_step hb15 hw16
  have hrA16 := hrA15.up hw16
  have hrB16 := hrB15.up hw16
  have hrC16 := hrC15.up hw16
  have hrD16 := hrD15.up hw16
  clear hrA15 hrB15 hrW15 hrC15 hrD15 hb15 hw16 hq16 hsB
  have hsC := Try.sameI_any _ _ _ _ _ _ _ _ _ (hrC16.intSl Try.underlying25 Try.sizeInt hlD) hrD16
  rw [dec_self] at hsC
  go_wp2_with fail
  refine hsC.mono ?_
  rintro e w17 ⟨rfl, hq17⟩
  have hw17 := below_of_drew hq17
  have hb17 := below_step hb16 hw17
  have hrA17 := hrA16.up hw17
  have hrB17 := hrB16.up hw17
  have hrC17 := hrC16.up hw17
  clear hrA16 hrB16 hrC16 hrD16 hb16 hw17 hq17 hsC
  go_wp2_with fail
  refine (hK _ _ (HR.out _ hb17) (hTk.out.up (below_step hb1 hb17))).mono ?_
  rintro e w18 ⟨rfl, hw18⟩
  have hb18 := below_step hb17 hw18
  have hrA18 := hrA17.up hw18
  have hrB18 := hrB17.up hw18
  have hrC18 := hrC17.up hw18
  clear hrA17 hrB17 hrC17 hb17 hw18 hK
  have hap := Try.apartI_three w18 aA aB aC fl fl dl hrA18 hrB18 hrC18 (fun b b' h h' => by have := hltA b h; have := hgB b' h'; omega) (fun b b' h h' => by have := hltA b h; have := hgC b' h'; have := hw2.size; have := hltA b h; omega) (fun b b' h h' => by have := hltB b h; have := hgC b' h'; omega) ⟨HF.out.1, HF.out.1, HD.out.1⟩ ⟨HF.out.2, HF.out.2, HD.out.2⟩
  clear hrA18 hrB18 hrC18 hltA hltB hgA hgB hgC
  go_wp2_with fail
  refine hap.mono ?_
  rintro e w19 ⟨rfl, hw19⟩
  have hb19 := below_step hb18 hw19
  go_wp2
  go_ret
  exact ⟨rfl, below_step hb1 hb19⟩
theorem Try.termTells_any (a : Option Addr) (len cap : Nat) (ts : List Tk) (w : World) (hT : TkSl w a len cap ts) :
    Calls Try.prog 3 #[.slice a len cap] w fun e w' => e = .returned (.bool true) ∧ Below w.heap.size w w' := by
  by_cases h : (200 < len ∧ len ≤ 512) ∨ 517 < len
  · exact Try.termTells_large a len cap w h
  · exact Try.termTells_go a len cap ts w hT h
end Go.Proofs.Ytgnhccjcokhmhaa
