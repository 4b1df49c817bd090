/- The law CubeLists: which letters a cube has, in order, and which cubes some letters have; memory. -/
import Derived.Test.YtnaalbcbmhpfjaaWCubR8
import Derived.Test.YtnaalbcbmhpfjaaWThree
import Derived.Test.YtnaalbcbmhpfjaaWLCalls
namespace Go.Proofs.Ytnaalbcbmhpfjaa
open Go.RowKit Go.Maps

/-- The letters that are told. -/
def curL (n : Int) (c : Cu) : List Int := if errC n c = 0 then lettI n.toNat c else []
theorem curL_val (n : Int) (c : Cu) : ∀ z ∈ curL n c, 0 ≤ z ∧ z < 256 := by
  unfold curL
  by_cases h : errC n c = 0
  · rw [if_pos h]; obtain ⟨N, rfl, hN, _⟩ := errC_zero h; exact lettI_val hN
  · rw [if_neg h]; intro z hz; simp at hz
theorem curL_len (n : Int) (c : Cu) : (curL n c).length ≤ 256 := by
  unfold curL
  by_cases h : errC n c = 0
  · rw [if_pos h]; obtain ⟨N, rfl, hN, _⟩ := errC_zero h; rw [lettI_len]; exact Nat.le_trans (lenC_le _ _) (pow_256 hN)
  · rw [if_neg h]; simp
theorem count_cur (n : Int) (c : Cu) : countV n c = ((curL n c).length : Int) := by
  unfold countV curL
  by_cases h : errC n c = 0
  · rw [if_pos h, if_pos h, lettI_len]
  · rw [if_neg h, if_neg h]; rfl
theorem Try.letU (n : Int) (a b : Nat) (w : World) (ha : a < 256) (hb : b < 256) :
    Calls Try.prog 22 #[.int .i64 n, .agg #[.int .u8 (a : Int), .int .u8 (b : Int)]] w fun e w' => (∃ ax : Option Addr, e = .returned (.tuple #[.slice ax (curL n (a, b)).length (curL n (a, b)).length, .int .i64 (errC n (a, b))]) ∧ RowOf w' 22 ax (curL n (a, b)) ∧ Hid (∀ k, ax.map (·.block) = some k → w.heap.size ≤ k)) ∧ Below w.heap.size w w' :=
  (Try.letters_any n a b w ha hb).mono fun e w' ⟨h, hb'⟩ => by
    rcases h with ⟨h0, g, h1, h2, h3⟩ | ⟨h0, h1⟩
    · have e1 : curL n (a, b) = lettI n.toNat (a, b) := by unfold curL; rw [if_pos h0]
      refine ⟨⟨some ⟨g, 0, none⟩, by rw [h1, e1, lettI_len, h0], by rw [e1]; exact Or.inr ⟨g, rfl, h2⟩, fun k hk => ?_⟩, hb'⟩
      simp at hk; omega
    · have e1 : curL n (a, b) = [] := by unfold curL; rw [if_neg h0]
      exact ⟨⟨none, by rw [h1, e1]; rfl, by rw [e1]; exact Or.inl ⟨rfl, rfl⟩, fun k hk => by simp at hk⟩, hb'⟩
theorem Try.rletU (n : Int) (a b : Nat) (w : World) (ha : a < 256) (hb : b < 256) :
    Calls Try.prog 23 #[.int .i64 n, .agg #[.int .u8 (a : Int), .int .u8 (b : Int)]] w fun e w' => (∃ (az : Option Addr) (zcap : Nat), e = .returned (.tuple #[.slice az (curL n (a, b)).length zcap, .int .i64 (errC n (a, b))]) ∧ IntSl Try.prog 36 .u8 w' az (curL n (a, b)).length zcap (curL n (a, b))) ∧ Below w.heap.size w w' :=
  (Try.rletters_any n a b w ha hb).mono fun e w' ⟨h, hb'⟩ => by
    rcases h with ⟨h0, v, h1, h2⟩ | ⟨h0, h1⟩
    · have e1 : curL n (a, b) = lettI n.toNat (a, b) := by unfold curL; rw [if_pos h0]
      obtain ⟨az, zcap, rfl, hS, _⟩ := ownsRow_intSl (P := Try.prog) (T := 36) h2 Try.underlying36 Try.sizeLet
      exact ⟨⟨az, zcap, by rw [h1, e1, lettI_len, h0], by rw [e1, lettI_len]; exact hS⟩, hb'⟩
    · have e1 : curL n (a, b) = [] := by unfold curL; rw [if_neg h0]
      exact ⟨⟨none, 0, by rw [h1, e1]; rfl, by rw [e1]; exact intSl_nil⟩, hb'⟩
/-- The cubes that are told, and the error. -/
def covL (n : Int) (zs : List Int) : List Cu := if fitsAll n zs = true ∧ (0 ≤ n ∧ n ≤ 8) then coverV n.toNat zs else []
def covE (n : Int) (zs : List Int) : Int := if fitsAll n zs = true ∧ (0 ≤ n ∧ n ≤ 8) then 0 else 2
theorem covL_ok (n : Int) (zs : List Int) : ∀ c ∈ covL n zs, c.ok := by
  unfold covL; split
  · rename_i h
    obtain ⟨N, rfl⟩ := Int.eq_ofNat_of_zero_le h.2.1
    exact coverF_ok (by omega) _ N 0 (0, 0) (by omega) ⟨by decide, by decide⟩
  · intro c hc; simp at hc
def CovU (n : Int) (zs : List Int) (w : World) (e : Ending) (w' : World) : Prop := ∃ a g cap, e = .returned (.tuple #[.slice a (covL n zs).length cap, .int .i64 (covE n zs)]) ∧ CuSl Try.prog 32 w' a g (covL n zs).length cap (covL n zs) ∧ Hid (0 < (covL n zs).length → w.heap.size ≤ g) ∧ Hid (0 < (covL n zs).length → RowW w' 24 g (covL n zs).length)
theorem covU_of {n : Int} {zs : List Int} {w w' : World} {e : Ending} (h : CoverR 24 n zs w e w') : CovU n zs w e w' := by
  rcases h with ⟨hf, hn, v, h1, h2⟩ | ⟨hf, h1⟩
  · have e1 : covL n zs = coverV n.toNat zs := by unfold covL; rw [if_pos ⟨hf, hn⟩]
    have e2 : covE n zs = 0 := by unfold covE; rw [if_pos ⟨hf, hn⟩]
    have hok := covL_ok n zs
    unfold CovU
    rw [e2]
    rw [e1] at hok ⊢
    obtain ⟨a, g, cap, rfl, hS, hb, hr⟩ := own_rowW (P := Try.prog) (T := 32) h2 Try.underlying32 Try.sizeCube hok
    exact ⟨a, g, cap, h1, hS, hb, hr⟩
  · have e1 : covL n zs = [] := by unfold covL; rw [if_neg hf]
    have e2 : covE n zs = 2 := by unfold covE; rw [if_neg hf]
    unfold CovU
    rw [e1, e2]
    exact ⟨none, 0, 0, h1, ⟨rfl, Nat.le_refl _, Nat.zero_le _, fun m k w hk hm => absurd hm (by simp at *; omega), fun k hk => absurd hk (by simp), fun k hk => absurd hk (by simp), fun hk => absurd hk (by simp), fun c hc => by simp at hc⟩, fun hk => absurd hk (by simp), fun hk => absurd hk (by simp)⟩
theorem RowOf.other {w : World} {e : TypeId} {a : Option Addr} {cur : List Int} (h : RowOf w e a cur) {p : Addr} (hne : ∀ k, a.map (·.block) = some k → k ≠ p.block) (v : Value) : RowOf (w.setCell p v) e a cur := by
  rcases h with ⟨h1, h2⟩ | ⟨g, h1, h2⟩
  · exact Or.inl ⟨h1, h2⟩
  · exact Or.inr ⟨g, h1, (Below.heap_setCell w p v g (hne g (by rw [h1]; rfl))).trans h2⟩

set_option maxRecDepth 100000 in
set_option maxHeartbeats 4000000 in
theorem Try.lists_any (n : Int) (a b : Nat) (ad : Option Addr) (len cap : Nat) (zs : List Int) (w : World) (ha : a < 256) (hb : b < 256) (hS : IntSl Try.prog 36 .u8 w ad len cap zs) (hz : ∀ z ∈ zs, 0 ≤ z ∧ z < 256) (hreach : cap ≤ 140737488351232) :
    Calls Try.prog 4 #[.int .i64 n, .agg #[.int .u8 (a : Int), .int .u8 (b : Int)], .slice ad len cap] w fun e w' => e = .returned (.bool true) ∧ Below w.heap.size w w' := by
  have hlen : len ≤ 140737488351232 := Nat.le_trans hS.hcap hreach
  have hzl := hS.hlen
  have hcnt := fun w => Try.count_any n a b w ha hb
  have hlet := fun w => Try.letU n a b w ha hb
  have hrle := fun w => Try.rletU n a b w ha hb
  have hpr := fun w => Try.print_any n a b w ha hb
  have hrpr := fun w => Try.rprint_any n a b w ha hb
  have HCV : Hid _ := curL_val n (a, b)
  have HCL : Hid _ := curL_len n (a, b)
  unfold PrintCR at hpr hrpr
  rw [count_cur] at hcnt
  generalize curL n (a, b) = cur at *
  generalize errC n (a, b) = E at *
  generalize printV n (a, b) = str at *
  have hC0 := Blk.new w 24 a b
  have hbw0 := below_new w (.cells #[.int .u8 (a : Int), .int .u8 (b : Int)] 24)
  go_enter Try.func4, Try.ntmps4
  go_wp2_with fail
  refine (Try.lentL_any ad len cap zs _ (hS.up hbw0) hlen).mono ?_
  rintro e w1 ⟨rfl, hU1, hw1⟩
  have hC1 := hC0.up hw1
  have hb1 := below_step hbw0 hw1
  obtain ⟨gu, hgu⟩ : ∃ gu, gu = (w.alloc (.cells #[.int .u8 (a : Int), .int .u8 (b : Int)] 24)).heap.size := ⟨_, rfl⟩
  rw [← hgu] at hU1 ⊢
  have hgu0 : w.heap.size < gu := by rw [hgu]; simp
  have hguw1 : gu < w1.heap.size := hU1.lt
  clear hw1 hC0 hbw0 hgu
  have h00 := hC1.c0
  have h01 := hC1.c1
  go_wp2_with fail
  refine (hcnt _).mono ?_
  rintro e w2 ⟨rfl, hw2⟩
  have hguw : gu < w2.heap.size := Nat.lt_of_lt_of_le hguw1 hw2.size
  have h2s : w.heap.size ≤ w2.heap.size := Nat.le_trans hb1.size hw2.size
  have hC2 := hC1.up hw2
  have hU2 := hU1.up hw2
  have hb2 := below_step hb1 hw2
  clear hC1 hU1 hb1 h00 h01
  have h00 := hC2.c0
  have h01 := hC2.c1
  go_wp2_with fail
  refine (hlet _).mono ?_
  rintro e w3 ⟨⟨ax, rfl, hX3, hxb⟩, hw3⟩
  have hC3 := hC2.up hw3
  have hU3 := hU2.up hw3
  have hb3 := below_step hb2 hw3
  clear hC2 hU2 hb2 h00 h01
  have h00 := hC3.c0
  have h01 := hC3.c1
  go_wp2_with fail
  refine (hlet _).mono ?_
  rintro e w4 ⟨⟨ay, rfl, hY4, hyb⟩, hw4⟩
  have hX4 := hX3.up hw4
  have hxlt := hX3.lt
  have hC4 := hC3.up hw4
  have hU4 := hU3.up hw4
  have hb4 := below_step hb3 hw4
  clear hC3 hU3 hb3 h00 h01
  have h00 := hC4.c0
  have h01 := hC4.c1
  clear hX3
  go_wp2_with fail
  refine (hrle _).mono ?_
  rintro e w5 ⟨⟨az, zcap, rfl, hZ5⟩, hw5⟩
  have hylt := hY4.lt
  have hsz3 : w3.heap.size ≤ w4.heap.size := hw4.size
  have hC5 := hC4.up hw5
  have hU5 := hU4.up hw5
  have hX5 := hX4.up hw5
  have hY5 := hY4.up hw5
  have hb5 := below_step hb4 hw5
  clear hC4 hU4 hX4 hY4 hb4 h00 h01
  have h00 := hC5.c0
  have h01 := hC5.c1
  go_wp2_with fail
  refine (hpr _).mono ?_
  rintro e w6 ⟨rfl, hw6⟩
  have hC6 := hC5.up hw6
  have hU6 := hU5.up hw6
  have hX6 := hX5.up hw6
  have hY6 := hY5.up hw6
  have hZ6 := hZ5.up hw6
  have hb6 := below_step hb5 hw6
  clear hC5 hU5 hX5 hY5 hZ5 hb5 h00 h01
  have h00 := hC6.c0
  have h01 := hC6.c1
  go_wp2_with fail
  refine (hrpr _).mono ?_
  rintro e w7 ⟨rfl, hw7⟩
  have hC7 := hC6.up hw7
  have hU7 := hU6.up hw7
  have hX7 := hX6.up hw7
  have hY7 := hY6.up hw7
  have hZ7 := hZ6.up hw7
  have hb7 := below_step hb6 hw7
  clear hC6 hU6 hX6 hY6 hZ6 hb6 h00 h01
  have h00 := hC7.c0
  have h01 := hC7.c1
  have hcov1 := Try.Cover_any n (some ⟨gu, 0, none⟩) len (len + 3) zs w7 (Try.lentL_slen hU7 hzl hlen) hz
  go_wp2_with fail
  refine hcov1.mono ?_
  rintro e w8 ⟨hcr8, hw8⟩
  obtain ⟨pa, pg, pcap, rfl, hP8, hpb, hpw⟩ := covU_of hcr8
  have hC8 := hC7.up hw8
  have hU8 := hU7.up hw8
  have hX8 := hX7.up hw8
  have hY8 := hY7.up hw8
  have hZ8 := hZ7.up hw8
  have hb8 := below_step hb7 hw8
  clear hC7 hU7 hX7 hY7 hZ7 hb7 h00 h01
  have h00 := hC8.c0
  have h01 := hC8.c1
  have hcov2 := Try.Cover_any n (some ⟨gu, 0, none⟩) len (len + 3) zs w8 (Try.lentL_slen hU8 hzl hlen) hz
  go_wp2_with fail
  refine hcov2.mono ?_
  rintro e w9 ⟨hcr9, hw9⟩
  obtain ⟨qa, qg, qcap, rfl, hQ9, hqb, _⟩ := covU_of hcr9
  have hplt := hP8.blk
  have hC9 := hC8.up hw9
  have hU9 := hU8.up hw9
  have hX9 := hX8.up hw9
  have hY9 := hY8.up hw9
  have hZ9 := hZ8.up hw9
  have hP9 := hP8.up hw9
  have hb9 := below_step hb8 hw9
  clear hC8 hU8 hX8 hY8 hZ8 hP8 hb8 h00 h01
  have h00 := hC9.c0
  have h01 := hC9.c1
  have hcov3 := Try.rCover_any n ad len cap zs w9 (hS.up hb9) hz
  go_wp2_with fail
  refine hcov3.mono ?_
  rintro e w10 ⟨hcr10, hw10⟩
  obtain ⟨oa, og, ocap, rfl, hO10, hob, _⟩ := covU_of hcr10
  have hC10 := hC9.up hw10
  have hU10 := hU9.up hw10
  have hX10 := hX9.up hw10
  have hY10 := hY9.up hw10
  have hZ10 := hZ9.up hw10
  have hP10 := hP9.up hw10
  have hQ10 := hQ9.up hw10
  have hb10 := below_step hb9 hw10
  clear hC9 hU9 hX9 hY9 hZ9 hP9 hQ9 hb9 h00 h01
  have h00 := hC10.c0
  have h01 := hC10.c1
  have hqlt := hQ10.blk
  have hobs := hw10.size
  have h9s := hw9.size
  have h8s := hw8.size
  have h7s := hw7.size
  have h6s := hw6.size
  have h5s := hw5.size
  have h4s := hw4.size
  have h3s := hw3.size
  have hne : Hid (0 < (covL n zs).length → (qg ≠ pg ∧ og ≠ pg ∧ gu ≠ pg ∧ w.heap.size ≤ pg) ∧ (∀ k, ax.map (·.block) = some k → k ≠ pg) ∧ (∀ k, ay.map (·.block) = some k → k ≠ pg)) := fun h => by
    have h1 := hpb.out h
    have h2 := hplt h
    have h3 := hqb.out h
    have h4 := hob.out h
    have h5 := hU10.lt
    have h6 : gu < w2.heap.size := hguw
    refine ⟨⟨by omega, by omega, by omega, by omega⟩, fun k hk => ?_, fun k hk => ?_⟩
    · have := hxlt k hk; omega
    · have := hylt k hk; omega
  have hux : Hid (∀ k, ax.map (·.block) = some k → gu < k) := fun k hk => Nat.lt_of_lt_of_le hguw (hxb.out k hk)
  have huy : Hid (∀ k, ay.map (·.block) = some k → gu < k) := fun k hk => Nat.lt_of_lt_of_le (Nat.lt_of_lt_of_le hguw h3s) (hyb.out k hk)
  have hxy : Hid (∀ k k', ax.map (·.block) = some k → ay.map (·.block) = some k' → k < k') := fun k k' hk hk' => Nat.lt_of_lt_of_le (hxlt k hk) (hyb.out k' hk')
  have hcm : cur.length ≤ maxLen := by have := HCL.out; unfold maxLen; omega
  have hXs := hX10.intSl (P := Try.prog) (T := 36) Try.underlying36 Try.sizeLet hcm
  have hYs := hY10.intSl (P := Try.prog) (T := 36) Try.underlying36 Try.sizeLet hcm
  have hSx : ∀ w', Below w10.heap.size w10 w' → Calls Try.prog 28 #[.slice ax cur.length cur.length, .slice az cur.length zcap] w' fun e w'' => e = .returned (.bool true) ∧ Below w'.heap.size w' w'' := fun w' hb =>
    (Try.same_any _ _ _ _ _ _ _ _ w' (hXs.up hb) (hZ10.up hb)).mono fun e w'' ⟨he, hd⟩ => ⟨by rw [he, decide_eq_true rfl], drew_below hd⟩
  have hSy : ∀ w', Below w10.heap.size w10 w' → Calls Try.prog 28 #[.slice ay cur.length cur.length, .slice az cur.length zcap] w' fun e w'' => e = .returned (.bool true) ∧ Below w'.heap.size w' w'' := fun w' hb =>
    (Try.same_any _ _ _ _ _ _ _ _ w' (hYs.up hb) (hZ10.up hb)).mono fun e w'' ⟨he, hd⟩ => ⟨by rw [he, decide_eq_true rfl], drew_below hd⟩
  have hSp : ∀ w', Below w10.heap.size w10 w' → Calls Try.prog 19 #[.slice pa (covL n zs).length pcap, .slice oa (covL n zs).length ocap] w' fun e w'' => e = .returned (.bool true) ∧ Below w'.heap.size w' w'' := fun w' hb =>
    (Try.sameC_any _ _ _ _ _ _ _ _ _ _ w' (hP10.up hb) (hO10.up hb)).mono fun e w'' ⟨he, hd⟩ => ⟨by rw [he, decide_eq_true rfl], hd⟩
  have hSq : ∀ w', Below w10.heap.size w10 w' → Calls Try.prog 19 #[.slice qa (covL n zs).length qcap, .slice oa (covL n zs).length ocap] w' fun e w'' => e = .returned (.bool true) ∧ Below w'.heap.size w' w'' := fun w' hb =>
    (Try.sameC_any _ _ _ _ _ _ _ _ _ _ w' (hQ10.up hb) (hO10.up hb)).mono fun e w'' ⟨he, hd⟩ => ⟨by rw [he, decide_eq_true rfl], hd⟩
  have hpw10 : Hid (0 < (covL n zs).length → RowW w10 24 pg (covL n zs).length) := fun h => ((hpw.out h).up hw9).up hw10
  clear hw2 hw3 hw4 hw5 hw6 hw7 hw8 hw9 hw10 hcr8 hcr9 hcr10 hpb hpw hqb hob hplt hqlt hxlt hylt hobs h9s h8s h7s h6s h5s h4s h3s hsz3 hguw hguw1 hxb hyb hcov1 hcov2 hcov3 hXs hYs hZ10 hcnt hlet hrle hpr hrpr h00 h01 hC10
  have hidx := fun (j : Nat) (w : World) (h : j < (covL n zs).length) => hP10.idx (covL n zs).length j w h (Nat.le_refl _)
  have hpc := hP10.hcap
  have hpd := hP10.bd
  unfold maxLen at hpd
  generalize covL n zs = cs at *
  generalize covE n zs = J at *
  go_wp2_with fail
  refine (hSx _ (Below.refl _ _)).mono ?_
  rintro e w11 ⟨rfl, hw11⟩
  go_wp2_with fail
  refine (hSy _ hw11).mono ?_
  rintro e w12 ⟨rfl, hw12⟩
  have hw12' := below_step hw11 hw12
  go_wp2_with fail
  refine (hSp _ hw12').mono ?_
  rintro e w13 ⟨rfl, hw13⟩
  have hw13' := below_step hw12' hw13
  go_wp2_with fail
  refine (hSq _ hw13').mono ?_
  rintro e w14 ⟨rfl, hw14⟩
  have hw14' := below_step hw13' hw14
  have hU14 := hU10.up hw14'
  have hX14 := hX10.up hw14'
  have hY14 := hY10.up hw14'
  have hQ14 := hQ10.up hw14'
  have hO14 := hO10.up hw14'
  have hpw14 : Hid (0 < cs.length → RowW w14 24 pg cs.length) := fun h => (hpw10.out h).up hw14'
  have hb14 := below_step hb10 hw14'
  clear hw11 hw12 hw13 hw14 hw12' hw13' hw14' hU10 hX10 hY10 hQ10 hO10 hP10 hpw10 hb10 hSx hSy hSp hSq
  go_wp2
  go_loopw [26] (fun i wr => ∃ k : Nat, k ≤ cs.length ∧ i = .int .i64 k ∧ Hid (0 < cs.length → RowW wr 24 pg cs.length) ∧ CuSl Try.prog 32 wr qa qg cs.length qcap cs ∧ CuSl Try.prog 32 wr oa og cs.length ocap cs ∧ RowAt wr 22 gu (lentL zs) ∧ RowOf wr 22 ax cur ∧ RowOf wr 22 ay cur ∧ Below w.heap.size w wr) (fun i _ => cs.length - (intOf i).toNat)
  case atStart => exact ⟨0, Nat.zero_le _, rfl, hpw14, hQ14, hO14, hU14, hX14, hY14, hb14⟩
  case round =>
    obtain ⟨k, hk, rfl, hcw, hQ, hO, hU, hX, hY, hbw⟩ := hrel
    clear hpw14 hQ14 hO14 hU14 hX14 hY14 hb14
    by_cases hlt : k < cs.length
    · have hrw := hcw.out (by omega)
      have hN := hne.out (by omega)
      obtain ⟨x0, hx0⟩ := hrw.cell (i := 2 * k) (by omega)
      obtain ⟨x1, hx1⟩ := hrw.cell (i := 2 * k + 1) (by omega)
      have hz0 := hrw.fz (2 * k)
      have hz1 := hrw.fz (2 * k + 1)
      have hrw2 : Hid (0 < cs.length → RowW ((wr.setCell ⟨pg, 2 * k, none⟩ (.int .u8 7)).setCell ⟨pg, 2 * k + 1, none⟩ (.int .u8 99)) 24 pg cs.length) := fun _ => (hrw.set _ _).set _ _
      have hQ2 := (hQ.other (p := ⟨pg, 2 * k, none⟩) (fun _ => hN.1.1) (.int .u8 7)).other (p := ⟨pg, 2 * k + 1, none⟩) (fun _ => hN.1.1) (.int .u8 99)
      have hO2 := (hO.other (p := ⟨pg, 2 * k, none⟩) (fun _ => hN.1.2.1) (.int .u8 7)).other (p := ⟨pg, 2 * k + 1, none⟩) (fun _ => hN.1.2.1) (.int .u8 99)
      have hU2 : RowAt ((wr.setCell ⟨pg, 2 * k, none⟩ (.int .u8 7)).setCell ⟨pg, 2 * k + 1, none⟩ (.int .u8 99)) 22 gu (lentL zs) := ((Below.heap_setCell _ _ _ _ hN.1.2.2.1).trans (Below.heap_setCell _ _ _ _ hN.1.2.2.1)).trans hU
      have hX2 := (hX.other (p := ⟨pg, 2 * k, none⟩) hN.2.1 (.int .u8 7)).other (p := ⟨pg, 2 * k + 1, none⟩) hN.2.1 (.int .u8 99)
      have hY2 := (hY.other (p := ⟨pg, 2 * k, none⟩) hN.2.2 (.int .u8 7)).other (p := ⟨pg, 2 * k + 1, none⟩) hN.2.2 (.int .u8 99)
      have hbw2 := (hbw.setCell (p := ⟨pg, 2 * k, none⟩) hN.1.2.2.2 (.int .u8 7)).setCell (p := ⟨pg, 2 * k + 1, none⟩) hN.1.2.2.2 (.int .u8 99)
      clear hrw hQ hO hU hX hY hbw hcw hN
      go_wp2
      go_roundw
      case rel => exact ⟨k + 1, by omega, by go_num, hrw2, hQ2, hO2, hU2, hX2, hY2, hbw2⟩
      case measure => simp [intOf]; omega
    · have hend := Try.sameC_any qa qg cs.length qcap cs oa og cs.length ocap cs wr hQ hO
      rw [decide_eq_true rfl] at hend
      clear hcw hQ hO hne
      go_wp2_with fail
      refine hend.mono ?_
      rintro e w15 ⟨rfl, hw15⟩
      have hU15 := hU.up hw15
      have hX15 := hX.up hw15
      have hY15 := hY.up hw15
      have hb15 := below_step hbw hw15
      have hkp := Try.keptL_any gu len ad cap zs w15 hU15 (hS.up hb15) hlen
      clear hend hU hX hY hbw hw15
      go_wp2_with fail
      refine hkp.mono ?_
      rintro e w16 ⟨rfl, hw16⟩
      have hU16 := hU15.up hw16
      have hX16 := hX15.up hw16
      have hY16 := hY15.up hw16
      have hb16 := below_step hb15 hw16
      have hap := Try.apart_three w16 gu len zs ax ay cur hU16 hzl hlen hz hX16 hY16 hux.out huy.out hxy.out (Nat.le_trans HCL.out (by decide)) HCV.out
      unfold Try.lists at hap
      clear hkp hU15 hX15 hY15 hb15 hw16 hU16 hX16 hY16 hux huy hxy
      go_wp2_with fail
      refine hap.mono ?_
      rintro e w17 ⟨rfl, hw17⟩
      go_wp2
      go_ret
      exact ⟨rfl, below_step hb16 hw17⟩
end Go.Proofs.Ytnaalbcbmhpfjaa
