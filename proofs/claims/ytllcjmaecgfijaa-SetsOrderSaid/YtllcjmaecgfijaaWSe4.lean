/- Stage 10's laws over the contracts of package sets: SetsMean. -/
import Derived.Test.YtllcjmaecgfijaaWSe3
import Derived.Deep.DeepCutAuto
import Derived.BigQuiet
namespace Go.Proofs.Ytllcjmaecgfijaa
open Go.RowKit Go.Maps

theorem hoB_or (a b : List Nat) (h : Nat) : hoB (leastL (a ++ b)) h = (hoB a h || hoB b h) := by
  unfold hoB
  rw [Bool.eq_iff_iff]
  simp only [Bool.or_eq_true, decide_eq_true_eq]
  rw [leastL_holds, hoP_append]
theorem hoB_and (a b : List Nat) (h : Nat) : hoB (leastL (uniL a b)) h = (hoB a h && hoB b h) := by
  unfold hoB
  rw [Bool.eq_iff_iff]
  simp only [Bool.and_eq_true, decide_eq_true_eq]
  rw [leastL_holds, hoP_uni]
theorem hoB_least (a : List Nat) (h : Nat) : hoB (leastL a) h = hoB a h := by
  unfold hoB
  rw [Bool.eq_iff_iff]
  simp only [decide_eq_true_eq]
  rw [leastL_holds]
theorem sm_least {l : List Nat} (h : Sm l) : Sm (leastL l) := fun x hx => h x (leastL_sub hx)
theorem sm_append {a b : List Nat} (h : Sm a) (k : Sm b) : Sm (a ++ b) := fun x hx => (List.mem_append.1 hx).elim (h x) (k x)
theorem sm_uni {a b : List Nat} (h : Sm a) (k : Sm b) : Sm (uniL a b) := fun x hx => by
  unfold uniL at hx
  obtain ⟨y, hy, hx⟩ := List.mem_flatMap.1 hx
  obtain ⟨z, hz, rfl⟩ := List.mem_map.1 hx
  exact or_lt (h y hy) (k z hz)
theorem len_or (a b : List Nat) : (leastL (a ++ b)).length ≤ a.length + b.length := by
  have := leastL_len (a ++ b); rw [List.length_append] at this; exact this
theorem len_and (a b : List Nat) : (leastL (uniL a b)).length ≤ a.length * b.length := by
  have := leastL_len (uniL a b); rw [uniL_length] at this; exact this
set_option maxRecDepth 100000 in
set_option maxHeartbeats 8000000 in
theorem Try.setsMean_any (hC : SetC) (a : Option Addr) (n c : Nat) (A : List Nat) (b : Option Addr) (m d : Nat) (B : List Nat) (h : Nat) (w : World) (hA : USl w a n c A) (hB : USl w b m d B) (sA : Sm A) (sB : Sm B) (hh : h < 2 ^ 64) :
    Calls Try.prog 4 #[.slice a n c, .slice b m d, .int .u64 (h : Int)] w (BR true w) := by
  have HC : Hid SetC := hC
  have HSA : Hid (Sm A) := sA
  have HSB : Hid (Sm B) := sB
  have HH : Hid (h < 2 ^ 64) := hh
  have hla := hA.len
  have hlb := hB.len
  have bda := hA.bd
  have bdb := hB.bd
  have hca := hA.hcap
  have hcb := hB.hcap
  have j0 := Try.sawake_any hC w
  have HA : Hid (USl w a n c A) := hA
  have HB : Hid (USl w b m d B) := hB
  have HLA : Hid (n = A.length) := hla
  have HLB : Hid (m = B.length) := hlb
  clear hC hA hB hla hlb sA sB hh
  go_enter Try.func4, Try.ntmps4
  go_wp2_with fail
  refine j0.mono ?_
  rintro e w1 ⟨rfl, hb1⟩
  have HX1 : Hid (Below w.heap.size w w1) := hb1
  have j1 := Try.small_any w1.heap.size [(a, n, c), (b, m, d)] (w1.alloc (.cells #[.slice a n c, .slice b m d] 22)) ((MapKept.heap_alloc w1 _).1) (by simp) (by
    intro x hx
    simp only [List.mem_cons, List.not_mem_nil, or_false] at hx
    rcases hx with rfl | rfl
    · exact Nat.le_trans hca bda
    · exact Nat.le_trans hcb bdb)
  have HX2 : Hid (Below w1.heap.size w1 (w1.alloc (.cells #[.slice a n c, .slice b m d] 22))) := below_new w1 _
  have HSM : Hid (smB [(a, n, c), (b, m, d)] = (decide (n ≤ 9) && decide (m ≤ 9))) := by
    show _ = _
    simp [smB]
  rw [HSM.out] at j1
  clear j0 hb1 HSM
  dsimp only [List.length_cons, List.length_nil] at j1
  go_wp2_with fail
  refine j1.mono ?_
  rintro e w2 ⟨rfl, rfl⟩
  have HX3 : Hid (Below w.heap.size w (w1.alloc (.cells #[.slice a n c, .slice b m d] 22))) := below_step HX1.out HX2.out
  have HSM : Hid ((decide (n ≤ 9) && decide (m ≤ 9)) = true → n ≤ 9 ∧ m ≤ 9) := fun h => by simpa using h
  clear j1 HX1 HX2
  generalize (decide (n ≤ 9) && decide (m ≤ 9)) = s at *
  generalize w1.alloc (.cells #[.slice a n c, .slice b m d] 22) = w2 at *
  cases s with
  | false =>
    go_wp2_with fail
    go_ret
    exact ⟨rfl, HX3.out⟩
  | true =>
    obtain ⟨hn9, hm9⟩ := HSM.out rfl
    have hnm : n * m ≤ 81 := Nat.mul_le_mul hn9 hm9
    have j2 := HC.out.or a n c A b m d B w2 (HA.out.up HX3.out) (HB.out.up HX3.out) HSA.out HSB.out (by omega)
    clear HSM
    go_wp2_with fail
    refine j2.mono ?_
    rintro e w3 ⟨ax, cx, rfl, hSx, hb3⟩
    have HX4 : Hid (Below w.heap.size w w3) := below_step HX3.out hb3
    have HSX : Hid (USl w3 ax _ cx (leastL (A ++ B))) := hSx
    have j3 := HC.out.and a n c A b m d B w3 (HA.out.up HX4.out) (HB.out.up HX4.out) HSA.out HSB.out (by omega) (by omega) (by omega)
    have HLX : Hid ((leastL (A ++ B)).length ≤ 18) := by
      have := len_or A B
      have h1 := HLA.out
      have h2 := HLB.out
      show _ ≤ _
      omega
    clear j2 hb3 hSx
    generalize (leastL (A ++ B)).length = lx at *
    go_wp2_with fail
    refine j3.mono ?_
    rintro e w4 ⟨ay, cy, rfl, hSy, hb4⟩
    have HX5 : Hid (Below w3.heap.size w3 w4) := hb4
    have HX6 : Hid (Below w.heap.size w w4) := below_step HX4.out hb4
    have HSY : Hid (USl w4 ay _ cy (leastL (uniL A B))) := hSy
    have j4 := HC.out.least a n c A w4 (HA.out.up HX6.out) HSA.out (by omega)
    have HLY : Hid ((leastL (uniL A B)).length ≤ 81) := by
      have := len_and A B
      rw [← HLA.out, ← HLB.out] at this
      show _ ≤ _
      omega
    clear j3 hb4 hSy
    generalize (leastL (uniL A B)).length = ly at *
    go_wp2_with fail
    refine j4.mono ?_
    rintro e w5 ⟨al, cl, rfl, hSl, hb5⟩
    have HX7 : Hid (Below w4.heap.size w4 w5) := hb5
    have HX8 : Hid (Below w.heap.size w w5) := below_step HX6.out hb5
    have HSL : Hid (USl w5 al _ cl (leastL A)) := hSl
    have HLL : Hid ((leastL A).length ≤ 9) := by
      have := leastL_len A
      have h1 := HLA.out
      show _ ≤ _
      omega
    have hpA := HC.out.holds a n c A h w5 (HA.out.up HX8.out) HSA.out (by omega) HH.out
    clear j4 hb5 hSl
    generalize (leastL A).length = ll at *
    obtain ⟨p, hp⟩ : ∃ p, hoB A h = p := ⟨_, rfl⟩
    obtain ⟨q, hq⟩ : ∃ q, hoB B h = q := ⟨_, rfl⟩
    have HP : Hid (hoB A h = p) := hp
    have HQ : Hid (hoB B h = q) := hq
    rw [hp] at hpA
    clear hp hq
    go_wp2_with fail
    refine hpA.mono ?_
    rintro e w6 ⟨rfl, hb6⟩
    have HX9 : Hid (Below w5.heap.size w5 w6) := hb6
    have hpB := HC.out.holds b m d B h w6 (HB.out.up (below_step HX8.out hb6)) HSB.out (by omega) HH.out
    rw [HQ.out] at hpB
    clear hpA hb6
    go_wp2_with fail
    refine hpB.mono ?_
    rintro e w7 ⟨rfl, hb7⟩
    have HXA : Hid (Below w5.heap.size w5 w7) := below_step HX9.out hb7
    have HUX : Hid (USl w7 ax lx cx (leastL (A ++ B))) := ((HSX.out.up HX5.out).up HX7.out).up HXA.out
    have HUY : Hid (USl w7 ay ly cy (leastL (uniL A B))) := (HSY.out.up HX7.out).up HXA.out
    have HUL : Hid (USl w7 al ll cl (leastL A)) := HSL.out.up HXA.out
    have HXB : Hid (Below w.heap.size w w7) := below_step HX8.out HXA.out
    clear hpB hb7 HX9 HXA HSX HSY HSL HX8 HX7 HX6 HX5 HX4 HX3 HA HB
    go_upto_region 8 with fail
    go_cut [74] (fun cv wx => cv = .bool false ∧ Hid (Below w7.heap.size w7 wx))
    case first =>
      have jx : ∀ w', Below w7.heap.size w7 w' → Calls Try.prog 11 #[.slice ax lx cx, .int .u64 (h : Int)] w' (BR (p || q) w') := fun w' hb => by
        have := HC.out.holds ax lx cx _ h w' (HUX.out.up hb) (sm_least (sm_append HSA.out HSB.out)) (by have := HLX.out; omega) HH.out
        rwa [hoB_or, HP.out, HQ.out] at this
      have jy : ∀ w', Below w7.heap.size w7 w' → Calls Try.prog 11 #[.slice ay ly cy, .int .u64 (h : Int)] w' (BR (p && q) w') := fun w' hb => by
        have := HC.out.holds ay ly cy _ h w' (HUY.out.up hb) (sm_least (sm_uni HSA.out HSB.out)) (by have := HLY.out; omega) HH.out
        rwa [hoB_and, HP.out, HQ.out] at this
      have jl : ∀ w', Below w7.heap.size w7 w' → Calls Try.prog 11 #[.slice al ll cl, .int .u64 (h : Int)] w' (BR p w') := fun w' hb => by
        have := HC.out.holds al ll cl _ h w' (HUL.out.up hb) (sm_least HSA.out) (by have := HLL.out; omega) HH.out
        rwa [hoB_least, HP.out] at this
      have HJ : Hid (_ ∧ _ ∧ _) := ⟨jx, jy, jl⟩
      clear jx jy jl HP HQ
      cases p <;> cases q <;> (
        simp only [Bool.true_or, Bool.false_or, Bool.true_and, Bool.false_and] at HJ
        go_wp2_with fail
        refine (HJ.out.1 _ (Below.refl _ _)).mono ?_
        rintro e w8 ⟨rfl, hb8⟩
        go_wp2_with fail
        refine (HJ.out.2.1 _ hb8).mono ?_
        rintro e w9 ⟨rfl, hb9⟩
        have hb9' := below_step hb8 hb9
        go_wp2_with fail
        refine (HJ.out.2.2 _ hb9').mono ?_
        rintro e wA ⟨rfl, hbA⟩
        have HbA : Hid (Below w7.heap.size w7 wA) := below_step hb9' hbA
        clear hb8 hb9 hb9' hbA
        go_wp2_with fail
        go_meet
        exact ⟨rfl, HbA⟩)
    case rest =>
      obtain ⟨rfl, HB8⟩ := hcut
      generalize wc = w8 at *
      have kx := HC.out.check ax lx cx _ w8 (HUX.out.up HB8.out) (sm_least (sm_append HSA.out HSB.out)) (by have := HLX.out; omega)
      rw [decide_eq_true (leastL_again _).symm] at kx
      go_wp2_with fail
      refine kx.mono ?_
      rintro e w9 ⟨rfl, hb9⟩
      have HB9 : Hid (Below w7.heap.size w7 w9) := below_step HB8.out hb9
      have ky := HC.out.check ay ly cy _ w9 (HUY.out.up HB9.out) (sm_least (sm_uni HSA.out HSB.out)) (by have := HLY.out; omega)
      rw [decide_eq_true (leastL_again _).symm] at ky
      clear kx hb9 HB8
      go_wp2_with fail
      refine ky.mono ?_
      rintro e wA ⟨rfl, hbA⟩
      have HBA : Hid (Below w7.heap.size w7 wA) := below_step HB9.out hbA
      have kl := HC.out.check al ll cl _ wA (HUL.out.up HBA.out) (sm_least HSA.out) (by have := HLL.out; omega)
      rw [decide_eq_true (leastL_again _).symm] at kl
      clear ky hbA HB9
      go_wp2_with fail
      refine kl.mono ?_
      rintro e wB ⟨rfl, hbB⟩
      have HBB : Hid (Below w7.heap.size w7 wB) := below_step HBA.out hbB
      have km := HC.out.least al ll cl _ wB (HUL.out.up HBB.out) (sm_least HSA.out) (by have := HLL.out; omega)
      rw [leastL_again] at km
      clear kl hbB HBA
      go_wp2_with fail
      refine km.mono ?_
      rintro e wC ⟨aM, cM, rfl, hSM, hbC⟩
      have HBC : Hid (Below w7.heap.size w7 wC) := below_step HBB.out hbC
      have kn := HC.out.same aM _ cM _ al ll cl _ wC hSM (HUL.out.up HBC.out)
      rw [decide_eq_true rfl] at kn
      clear km hbC HBB hSM
      go_wp2_with fail
      refine kn.mono ?_
      rintro e wD ⟨rfl, hbD⟩
      have HZ : Hid (Below w.heap.size w wD) := below_step HXB.out (below_step HBC.out hbD)
      clear kn hbD
      go_wp2_with fail
      go_ret
      exact ⟨rfl, HZ.out⟩
end Go.Proofs.Ytllcjmaecgfijaa
