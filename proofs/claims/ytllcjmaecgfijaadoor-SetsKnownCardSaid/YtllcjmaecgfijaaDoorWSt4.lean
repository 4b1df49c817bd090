/- Package sets over the model: Or, tooMany, And. -/
import Derived.Test.YtllcjmaecgfijaaDoorWSt3
namespace Go.Proofs.YtllcjmaecgfijaaDoor
open Go.RowKit Go.Maps

set_option maxHeartbeats 2000000 in
theorem Tryd.or_any (a : Option Addr) (n c : Nat) (l : List Nat) (b : Option Addr) (m d : Nat) (k : List Nat) (w : World) (hA : USl w a n c l) (hB : USl w b m d k) (sL : Sm l) (sK : Sm k) (hn : n + m ≤ 1024) :
    Calls Tryd.prog 17 #[.slice a n c, .slice b m d] w (LE 0 (leastL (l ++ k)) w) := by
  have hl := hA.len
  have hk := hB.len
  have hbn := below_new w (.cells #[.slice a n c, .slice b m d] 25)
  have hrow := (MapKept.heap_alloc w (.cells #[.slice a n c, .slice b m d] 25)).1
  have hj : joinU [⟨a, n, c, l⟩, ⟨b, m, d, k⟩] = l ++ k := by simp [joinU]
  have hcc := Tryd.concatU_any w.heap.size [⟨a, n, c, l⟩, ⟨b, m, d, k⟩] (w.alloc (.cells #[.slice a n c, .slice b m d] 25)) (fun i hi => by
      rw [cell_row hrow i]
      match i, hi with
      | 0, _ => rfl
      | 1, _ => rfl) (by simp) (fun p hp => by
      rcases List.mem_cons.1 hp with rfl | hp
      · exact hA.up hbn
      · rcases List.mem_cons.1 hp with rfl | hp
        · exact hB.up hbn
        · cases hp) (by rw [hj, List.length_append]; omega) (by simp)
  rw [hj] at hcc
  dsimp only [List.length_cons, List.length_nil, Nat.zero_add, Nat.reduceAdd] at hcc
  have HL : Hid (∀ w1 v, w1.ownsRow (w.alloc (.cells #[.slice a n c, .slice b m d] 25)).heap.size 22 1 v (l ++ k).length ((iU (l ++ k)).map (Value.int .u64)) → ∃ q C, v = .slice q (l ++ k).length C ∧ Calls Tryd.prog 13 #[.slice q (l ++ k).length C] w1 (LR (leastL (l ++ k)) w1)) := fun w1 v ho => by
    obtain ⟨q, C, rfl, hU⟩ := usl_own ho
    exact ⟨q, C, rfl, Tryd.least_any q _ C _ w1 hU (sm_append sL sK) (by rw [List.length_append]; omega)⟩
  have HBN : Hid _ := hbn
  have hw1 : IntKind.i64.wrap ((n : Int) + (m : Int)) = ((n + m : Nat) : Int) := by rw [IntKind.wrap_i64]; omega
  have hg1 : ¬ ((1024 : Int) < ((n + m : Nat) : Int)) := by omega
  have hb1 := hA.bd
  have hb2 := hB.bd
  clear hbn hrow hA hB sL sK hj hl hk
  generalize leastL (l ++ k) = r at *
  generalize l ++ k = lk at *
  go_enter Tryd.func17, Tryd.ntmps17
  go_wp2_with fail
  refine hcc.mono ?_
  rintro e w1 ⟨v, rfl, hown, hb⟩
  obtain ⟨q, C, rfl, hle⟩ := HL.out w1 v hown
  have HB1 : Hid (Below w.heap.size w w1) := below_step HBN.out hb
  clear hown hb hcc HL HBN
  go_wp2_with fail
  refine hle.mono ?_
  rintro e w2 ⟨q2, C2, rfl, hU2, hb2⟩
  have HU : Hid _ := hU2
  have HB2 : Hid (Below w.heap.size w w2) := below_step HB1.out hb2
  clear hU2 hb2 HB1 hle
  go_wp2
  go_ret2
  exact ⟨q2, C2, rfl, HU.out, HB2.out⟩
theorem Tryd.or_no (a : Option Addr) (n c : Nat) (b : Option Addr) (m d : Nat) (w : World) (hn1 : n ≤ 1000000) (hn2 : m ≤ 1000000) (hn : 1024 < n + m) :
    Calls Tryd.prog 17 #[.slice a n c, .slice b m d] w (LE 9 [] w) := by
  have hw1 : IntKind.i64.wrap ((n : Int) + (m : Int)) = ((n + m : Nat) : Int) := by rw [IntKind.wrap_i64]; omega
  have hg1 : (1024 : Int) < ((n + m : Nat) : Int) := by omega
  go_enter Tryd.func17, Tryd.ntmps17
  go_wp2
  go_ret2
  exact ⟨none, 0, rfl, usl_nil, Below.refl _ _⟩
theorem Tryd.many_any (n m : Nat) (w : World) (_hn : n ≤ 1000000) (_hm : m ≤ 1000000) :
    Calls Tryd.prog 25 #[.int .i64 (n : Int), .int .i64 (m : Int)] w fun e w' => e = .returned (.bool (decide (1024 < n * m))) ∧ w' = w := by
  by_cases h0 : n = 0
  · subst h0
    go_enter Tryd.func25, Tryd.ntmps25
    go_wp2
    go_ret
    exact ⟨by simp, rfl⟩
  · have hpos : (0 : Int) < (n : Int) := by omega
    have hne : ¬ ((n : Int) = 0) := by omega
    have hq : IntKind.i64.wrap ((1024 : Int).tdiv (n : Int)) = ((1024 / n : Nat) : Int) := by
      have : (1024 : Int).tdiv (n : Int) = ((1024 / n : Nat) : Int) := rfl
      rw [this, IntKind.wrap_i64]
      have h2 := Nat.div_le_self 1024 n
      generalize 1024 / n = q at *
      omega
    have HD : Hid (decide (1024 / n < m) = decide (1024 < n * m)) := by
      show _ = _
      have h1 : 1024 / n < m ↔ 1024 < n * m := by rw [Nat.div_lt_iff_lt_mul (by omega), Nat.mul_comm]
      by_cases h : 1024 < n * m
      · rw [decide_eq_true h, decide_eq_true (h1.2 h)]
      · rw [decide_eq_false h, decide_eq_false fun k => h (h1.1 k)]
    generalize 1024 / n = q at *
    go_enter Tryd.func25, Tryd.ntmps25
    go_wp2
    go_ret
    exact ⟨by rw [← HD.out]; rfl, rfl⟩
theorem uni_len2 (l k : List Nat) (i j : Nat) (x : Nat) (hi : i < l.length) (hj : j ≤ k.length) : (uniL (l.take i) k ++ (k.take j).map fun y => x ||| y).length ≤ l.length * k.length := by
  rw [List.length_append, uniL_length, List.length_map, List.length_take, List.length_take, Nat.min_eq_left (by omega), Nat.min_eq_left hj]
  have : (i + 1) * k.length ≤ l.length * k.length := Nat.mul_le_mul_right _ hi
  rw [Nat.succ_mul] at this
  omega
theorem usl_get {w : World} {a : Option Addr} {n c : Nat} {l : List Nat} (h : USl w a n c l) {k : Nat} (hk : k < n) : w.cell? (adOf a k) = some (.int .u64 ((l.getD k 0 : Nat) : Int)) := by
  rw [h.cell k hk]
  congr 2
  simp only [List.getD_eq_getElem?_getD, iU, List.getElem?_map]
  cases l[k]? <;> rfl
theorem sm_get {l : List Nat} (h : Sm l) {k : Nat} (hk : k < l.length) : l.getD k 0 < 18446744073709551616 := by
  rw [List.getD_eq_getElem?_getD, List.getElem?_eq_getElem hk]
  exact h _ (List.getElem_mem hk)
set_option maxRecDepth 100000 in
set_option maxHeartbeats 4000000 in
theorem Tryd.and_any (a : Option Addr) (n c : Nat) (l : List Nat) (b : Option Addr) (m d : Nat) (k : List Nat) (w : World) (hA : USl w a n c l) (hB : USl w b m d k) (sL : Sm l) (sK : Sm k) (hn : n * m ≤ 1024) (hn1 : n ≤ 2000) (hm1 : m ≤ 2000) :
    Calls Tryd.prog 15 #[.slice a n c, .slice b m d] w (LE 0 (leastL (uniL l k)) w) := by
  have hl := hA.len
  have hk := hB.len
  have hmany := Tryd.many_any n m w (by omega) (by omega)
  rw [decide_eq_false (by omega : ¬ (1024 < n * m))] at hmany
  have HL : Hid (∀ w1 v, w1.ownsRow w.heap.size 22 1 v (uniL l k).length ((iU (uniL l k)).map (Value.int .u64)) → ∃ q C, v = .slice q (uniL l k).length C ∧ Calls Tryd.prog 13 #[.slice q (uniL l k).length C] w1 (LR (leastL (uniL l k)) w1)) := fun w1 v ho => by
    obtain ⟨q, C, rfl, hU⟩ := usl_own ho
    exact ⟨q, C, rfl, Tryd.least_any q _ C _ w1 hU (sm_uni sL sK) (by rw [uniL_length, ← hl, ← hk]; omega)⟩
  have HLT : Hid (uniL (l.take n) k = uniL l k) := by show _ = _; rw [List.take_of_length_le (by omega)]
  have HN : Hid (∀ i, i < n → uniL (l.take (i + 1)) k = uniL (l.take i) k ++ (k.take m).map fun y => l.getD i 0 ||| y) := fun i hi => by
    rw [uni_next (by omega), List.take_of_length_le (l := k) (by omega)]
  have HM : Hid (∀ x j, j < m → ((k.take (j + 1)).map fun y => x ||| y) = ((k.take j).map fun y => x ||| y) ++ [x ||| k.getD j 0]) := fun x j hj => map_next (by omega)
  have HW : Hid (∀ i j x, i < n → j ≤ m → (uniL (l.take i) k ++ (k.take j).map fun y => x ||| y).length ≤ 1024) := fun i j x hi hj => by
    have := uni_len2 l k i j x (by omega) (by omega)
    rw [← hl, ← hk] at this
    omega
  have HCA : Hid (∀ i, i < n → ∀ wr, Below w.heap.size w wr → wr.cell? (adOf a i) = some (.int .u64 ((l.getD i 0 : Nat) : Int))) := fun i hi wr hb => usl_get (hA.up hb) hi
  have HCB : Hid (∀ i, i < m → ∀ wr, Below w.heap.size w wr → wr.cell? (adOf b i) = some (.int .u64 ((k.getD i 0 : Nat) : Int))) := fun i hi wr hb => usl_get (hB.up hb) hi
  have HO : Hid (∀ i j, i < n → j < m → bits .or .u64 ((l.getD i 0 : Nat) : Int) ((k.getD j 0 : Nat) : Int) = ((l.getD i 0 ||| k.getD j 0 : Nat) : Int)) := fun i j hi hj => u64_or_nat _ _ (sm_get sL (by omega)) (sm_get sK (by omega))
  have hidA := fun (i : Nat) (w : World) (h : i < n) => hA.idx n i w h (Nat.le_refl _)
  have hidB := fun (i : Nat) (w : World) (h : i < m) => hB.idx m i w h (Nat.le_refl _)
  clear hA hB sL sK hl hk hn
  go_enter Tryd.func15, Tryd.ntmps15
  go_wp2_with fail
  refine hmany.mono ?_
  rintro e w0 ⟨rfl, hw0⟩
  obtain rfl : w = w0 := hw0.symm
  clear hmany
  go_wp2
  go_loopw [6, 18] (fun v i wr => ∃ p : Nat, p ≤ n ∧ i = .int .i64 (p : Int) ∧ Hid (wr.ownsRow w.heap.size 22 1 v (uniL (l.take p) k).length ((iU (uniL (l.take p) k)).map (Value.int .u64))) ∧ Hid (Below w.heap.size w wr)) (fun _ i _ => n - (intOf i).toNat)
  case atStart => exact ⟨0, Nat.zero_le _, rfl, ⟨rfl, Or.inl ⟨rfl, rfl⟩⟩, Below.refl _ _⟩
  case round =>
    obtain ⟨p, hp, rfl, HV, HB⟩ := hrel
    by_cases hlt : p < n
    · have hc := HCA.out p hlt wr HB.out
      have hx := fun w' => hidA p w' hlt
      have HNp : Hid _ := HN.out p hlt
      have HWp : Hid (∀ j x, j ≤ m → (uniL (l.take p) k ++ (k.take j).map fun y => x ||| y).length ≤ 1024) := fun j x hj => HW.out p j x hlt hj
      have HOp : Hid (∀ j, j < m → bits .or .u64 ((l.getD p 0 : Nat) : Int) ((k.getD j 0 : Nat) : Int) = ((l.getD p 0 ||| k.getD j 0 : Nat) : Int)) := fun j hj => HO.out p j hlt hj
      have HMp : Hid (∀ j, j < m → ((k.take (j + 1)).map fun y => l.getD p 0 ||| y) = ((k.take j).map fun y => l.getD p 0 ||| y) ++ [l.getD p 0 ||| k.getD j 0]) := fun j hj => HM.out _ j hj
      clear hidA HCA HN HW HO HM HL HLT
      generalize l.getD p 0 = x at *
      generalize hU : uniL (l.take p) k = U at *
      clear hU
      go_wp2
      clear hc hx
      go_loopw [6, 24] (fun v i w3 => ∃ j : Nat, j ≤ m ∧ i = .int .i64 (j : Int) ∧ Hid (w3.ownsRow w.heap.size 22 1 v (U ++ (k.take j).map fun y => x ||| y).length ((iU (U ++ (k.take j).map fun y => x ||| y)).map (Value.int .u64))) ∧ Hid (Below w.heap.size w w3)) (fun _ i _ => m - (intOf i).toNat)
      case atStart => exact ⟨0, Nat.zero_le _, rfl, by show World.ownsRow _ _ _ _ _ _ _; simpa using HV.out, HB⟩
      case round =>
        clear HV HB
        obtain ⟨j, hj, rfl, HV, HB⟩ := hrel
        by_cases hltj : j < m
        · have hc := HCB.out j hltj _ HB.out
          have hx := fun w' => hidB j w' hltj
          have hor := HOp.out j hltj
          have HMj : Hid _ := HMp.out j hltj
          have hbd := HWp.out j x (by omega)
          obtain ⟨va, vc, rfl⟩ := own_slU HV.out
          clear HWp HOp HMp HCB hidB HNp
          generalize k.getD j 0 = y at *
          generalize hR : (U ++ (k.take j).map fun y => x ||| y) = R at *
          have HRE : Hid (U ++ (k.take (j + 1)).map (fun y => x ||| y) = R ++ [x ||| y]) := by show _ = _; rw [HMj.out, ← List.append_assoc, hR]
          clear HMj hR
          generalize x ||| y = z at *
          have HOA : Hid ((wr.alloc (.cells #[.int .u64 (z : Int)] 22)).ownsRow w.heap.size 22 1 (.slice va R.length vc) R.length ((iU R).map (Value.int .u64))) := World.ownsRow.alloc HV.out _
          have HCA : Hid ((wr.alloc (.cells #[.int .u64 (z : Int)] 22)).cell? ⟨wr.heap.size, 0, none⟩ = some (.int .u64 (z : Int))) := cell_row (MapKept.heap_alloc wr _).1 0
          have HWA : Hid (Below w.heap.size w (wr.alloc (.cells #[.int .u64 (z : Int)] 22))) := HB.out.alloc HB.out.size _
          have hszA : w.heap.size ≤ (wr.alloc (.cells #[.int .u64 (z : Int)] 22)).heap.size := HWA.out.size
          have HGE : Hid (∀ q, (Value.slice va R.length vc).ownBlock = some q → w.heap.size ≤ q) := own_ge HV.out
          clear HV HB
          go_wp2_with (at_builtin; refine Tryd.append_u rfl _ _ rfl w.heap.size _ R.length (iU R) rfl HOA.out wr.heap.size (z : Int) rfl HCA.out (by omega) hszA ?_)
          intro v7 w7 hown7 hgr7
          have HO7 : Hid (w7.ownsRow w.heap.size 22 1 v7 (R.length + 1) ((iU R ++ [(z : Int)]).map (Value.int .u64))) := by show World.ownsRow _ _ _ _ _ _ _; simpa using hown7
          have HW7 : Hid (Below w.heap.size w w7) := HWA.out.grown hgr7 hszA (fun q e => HGE.out q e)
          clear hown7 hgr7 HOA HCA HWA hszA HGE
          go_wp2
          go_roundw
          case rel =>
            refine ⟨j + 1, by omega, by go_num, ?_, HW7⟩
            show World.ownsRow _ _ _ _ _ _ _
            rw [HRE.out, List.length_append, iU_snoc]
            exact HO7.out
          case measure => simp [intOf]; omega
        · obtain rfl : j = m := by omega
          clear HWp HOp HMp HCB hidB
          go_wp2
          go_roundw
          case rel =>
            refine ⟨p + 1, by omega, by go_num, ?_, HB⟩
            show World.ownsRow _ _ _ _ _ _ _
            rw [HNp.out]
            exact HV.out
          case measure => simp [intOf]; omega
    · obtain rfl : p = n := by omega
      have HV2 : Hid _ := HV.out
      rw [HLT.out] at HV2
      obtain ⟨q, C, rfl, hle⟩ := HL.out wr _ HV2.out
      clear HV HV2 HN HM HW HCA HCB HO HL HLT hidA hidB
      generalize leastL (uniL l k) = r at *
      generalize (uniL l k).length = N at *
      go_wp2_with fail
      refine hle.mono ?_
      rintro e w2 ⟨q2, C2, rfl, hU2, hb2⟩
      have HU : Hid _ := hU2
      have HB2 : Hid (Below w.heap.size w w2) := below_step HB.out hb2
      clear hU2 hb2 hle
      go_wp2
      go_ret2
      exact ⟨q2, C2, rfl, HU.out, HB2.out⟩
theorem Tryd.and_no (a : Option Addr) (n c : Nat) (b : Option Addr) (m d : Nat) (w : World) (hn1 : n ≤ 2000) (hm1 : m ≤ 2000) (hn : 1024 < n * m) :
    Calls Tryd.prog 15 #[.slice a n c, .slice b m d] w (LE 9 [] w) := by
  have hmany := Tryd.many_any n m w (by omega) (by omega)
  rw [decide_eq_true hn] at hmany
  clear hn
  go_enter Tryd.func15, Tryd.ntmps15
  go_wp2_with fail
  refine hmany.mono ?_
  rintro e w0 ⟨rfl, hw0⟩
  obtain rfl : w = w0 := hw0.symm
  clear hmany
  go_wp2
  go_ret2
  exact ⟨none, 0, rfl, usl_nil, Below.refl _ _⟩
end Go.Proofs.YtllcjmaecgfijaaDoor
