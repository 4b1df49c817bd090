/- Package sets over the model: Least. -/
import Derived.Test.YtllcjmaecgfijaaDoorWSt1
namespace Go.Proofs.YtllcjmaecgfijaaDoor
open Go.RowKit Go.Maps

/-- A block of numbers, read as a list of sets. -/
theorem SoAt.usl {w : World} {g n G : Nat} {s : List Nat} {d : Array Int} {t : List Int} (h : SoAt w g d t) (hd : d.toList = iU s) (hn : s.length = n) (hG : n ≤ G) (hm : G ≤ maxLen) : USl w (some ⟨g, 0, none⟩) n G s := by
  have had : ∀ k, adOf (some ⟨g, 0, none⟩) k = ⟨g, k, none⟩ := fun k => by simp [adOf, add_plain]
  have hsz : d.size = n := by rw [← Array.length_toList, hd]; simpa using hn
  refine ⟨by simp [hn], hG, hm, fun m k w hk hm => idx_of Tryd.underlying25 Tryd.sizeU64 (by simp) k w hk, fun k hk => ?_, fun k hk => ?_, by simp⟩
  · rw [had, h.cell (by omega : k < d.size)]
    congr 2
    rw [← hd, List.getD_eq_getElem?_getD]
    simp [show k < d.size by omega]
  · rw [had]; exact h.lt
theorem usl_own {w : World} {base n : Nat} {v : Value} {l : List Nat} (h : w.ownsRow base 22 1 v n ((iU l).map (Value.int .u64))) : ∃ a c, v = .slice a n c ∧ USl w a n c l := by
  obtain ⟨a, c, h1, h2, _⟩ := ownU_sl h Tryd.underlying25 Tryd.sizeU64
  exact ⟨a, c, h1, h2⟩
theorem iU_snoc (l : List Nat) (x : Nat) : iU (l ++ [x]) = iU l ++ [(x : Int)] := by simp [iU]
set_option maxRecDepth 100000 in
set_option maxHeartbeats 4000000 in
/-- Least: the least sets, rising. -/
theorem Tryd.least_any (a : Option Addr) (n c : Nat) (l : List Nat) (w : World) (hS : USl w a n c l) (sL : Sm l) (hn : n ≤ 1000000) :
    Calls Tryd.prog 13 #[.slice a n c] w (LR (leastL l) w) := by
  have hln := hS.len
  have hcl := Tryd.clone_any a n c l w hS hn
  have hso : ∀ w1, Below w.heap.size w w1 → ∀ e, CloU l w e w1 → ∃ p G, e = .returned (.slice p n G) ∧ Calls Tryd.prog 23 #[.slice p n G] w1 fun e w2 => e = .returned (.tuple #[]) ∧ ∃ s : List Nat, s.Perm l ∧ s.Pairwise (· ≤ ·) ∧ USl w2 p n G s ∧ Below w.heap.size w w2 := by
    intro w1 hb1 e ⟨hb, hh⟩
    rcases hh with ⟨rfl, p, rfl⟩ | ⟨G, t, h0, rfl, hA, hG1, hG2⟩
    · obtain rfl : n = 0 := hln
      refine ⟨p, 0, rfl, (Tryd.sort_none p 0 w1).mono ?_⟩
      rintro e w2 ⟨rfl, rfl⟩
      refine ⟨rfl, [], List.Perm.refl _, List.Pairwise.nil, ?_, hb⟩
      exact ⟨rfl, Nat.le_refl _, Nat.zero_le _, fun m k w hk hm => absurd hk (by omega), fun k hk => absurd hk (by omega), fun k hk => absurd hk (by omega), fun _ => rfl⟩
    · have hsz : (iU l).toArray.size = n := by simp [hln]
      have h := Tryd.sort_any (w.heap.size + 1) G (iU l).toArray t w1 hA (by rw [hsz]; exact hn)
      rw [hsz] at h
      refine ⟨some ⟨w.heap.size + 1, 0, none⟩, G, by rw [← hln], h.mono ?_⟩
      rintro e w2 ⟨rfl, d, hp, hu, h2, hg⟩
      obtain ⟨s, hs1, hs2, hs3⟩ := row_back (l := l) (d := d.toList) (by simpa [iU] using hp) hu
      refine ⟨rfl, s, hs2, hs3, h2.usl hs1 (by rw [hs2.length_eq, hln]) (by rw [hln]; exact hG1) hG2, ?_⟩
      exact hb.grown hg hb.size (fun k hk => by cases hk; omega)
  have HSO : Hid _ := hso
  have HP : Hid (∀ s : List Nat, s.Perm l → Sm s ∧ s.length = n ∧ leastL s = leastL l) := fun s h => ⟨fun x hx => sL x (h.mem_iff.1 hx), by rw [h.length_eq, hln], least_perm h⟩
  clear hS sL hso hln
  go_enter Tryd.func13, Tryd.ntmps13
  go_wp2_with fail
  refine hcl.mono ?_
  intro e w1 hC
  obtain ⟨p, G, rfl, hsort⟩ := HSO.out w1 hC.1 e hC
  clear hC hcl HSO
  go_wp2_with fail
  refine hsort.mono ?_
  rintro e w2 ⟨rfl, s, hs1, hs2, hU, hB⟩
  clear hsort
  obtain ⟨sS, sN, sL2⟩ := HP.out s hs1
  clear HP hs1
  have HT : Hid (∀ k, k < n → leastL (s.take (k + 1)) = if hoB (leastL (s.take k)) (s.getD k 0) then leastL (s.take k) else leastL (s.take k) ++ [s.getD k 0]) := fun k hk => least_take hs2 (by omega)
  have HE : Hid (leastL (s.take n) = leastL l) := by show _ = _; rw [List.take_of_length_le (by omega)]; exact sL2
  have HM : Hid (∀ k, Sm (leastL (s.take k)) ∧ (leastL (s.take k)).length ≤ n) := fun k => ⟨fun x hx => sS x (List.mem_of_mem_take (leastL_sub hx)), by have := leastL_len (s.take k); rw [List.length_take] at this; omega⟩
  have HC : Hid (∀ k, k < n → ∀ wr, Below w2.heap.size w2 wr → wr.cell? (adOf p k) = some (.int .u64 ((s.getD k 0 : Nat) : Int))) := fun k hk wr hb => by
    rw [(hU.up hb).cell k hk]
    congr 2
    simp only [List.getD_eq_getElem?_getD, iU, List.getElem?_map]
    cases s[k]? <;> rfl
  have HX : Hid (∀ k, k < n → s.getD k 0 < 2 ^ 64) := fun k hk => by
    have hk' : k < s.length := by omega
    rw [List.getD_eq_getElem?_getD, List.getElem?_eq_getElem hk']
    exact sS _ (List.getElem_mem hk')
  have hidx := fun (k : Nat) (w : World) (h : k < n) => hU.idx n k w h (Nat.le_refl _)
  have HB0 : Hid (Below w.heap.size w w2) := hB
  clear hU hs2 sS sN sL2 hB
  go_wp2
  go_loopw [4, 13] (fun v i wr => ∃ k : Nat, k ≤ n ∧ i = .int .i64 (k : Int) ∧ Hid (wr.ownsRow w2.heap.size 22 1 v (leastL (s.take k)).length ((iU (leastL (s.take k))).map (Value.int .u64))) ∧ Hid (Below w2.heap.size w2 wr)) (fun _ i _ => n - (intOf i).toNat)
  case atStart => exact ⟨0, Nat.zero_le _, rfl, ⟨rfl, Or.inl ⟨rfl, rfl⟩⟩, Below.refl _ _⟩
  case round =>
    obtain ⟨k, hk, rfl, HO, HW⟩ := hrel
    obtain ⟨va, vc, rfl, hUs⟩ := usl_own HO.out
    by_cases hlt : k < n
    · have hc := HC.out k hlt wr HW.out
      have hx := fun w' => hidx k w' hlt
      have hho := Tryd.holds_any va _ vc _ (s.getD k 0) wr hUs (HM.out k).1 (HX.out k hlt)
      have HS : Hid _ := HT.out k hlt
      have hb := (HM.out k).2
      clear HC HX HT HM hidx hUs
      generalize s.getD k 0 = x at *
      have HL : Hid (leastL (s.take k) = leastL (s.take k)) := rfl
      generalize hq : leastL (s.take k) = r at *
      clear HL
      by_cases hh : hoB r x = true
      · rw [hh] at hho
        have HSE : Hid (leastL (s.take (k + 1)) = r) := by show _ = _; rw [HS.out, if_pos hh]
        clear HS hh
        go_wp2_with fail
        refine hho.mono ?_
        rintro e w3 ⟨rfl, hb3⟩
        have HO3 : Hid _ := owns_up HO.out hb3
        have HW3 : Hid _ := HW.out.trans (hb3.mono HW.out.size)
        clear hho HO HW hb3
        go_wp2
        go_roundw
        case rel => exact ⟨k + 1, by omega, by go_num, by rw [HSE.out]; exact HO3, HW3⟩
        case measure => simp [intOf]; omega
      · have hh2 : hoB r x = false := by cases h : hoB r x; rfl; exact absurd h hh
        rw [hh2] at hho
        have HSE : Hid (leastL (s.take (k + 1)) = r ++ [x]) := by show _ = _; rw [HS.out, if_neg hh]
        clear HS hh hh2
        go_wp2_with fail
        refine hho.mono ?_
        rintro e w3 ⟨rfl, hb3⟩
        have HO3 : Hid _ := owns_up HO.out hb3
        have HW3 : Hid (Below w2.heap.size w2 w3) := HW.out.trans (hb3.mono HW.out.size)
        clear hho HO HW hb3
        have HOA : Hid ((w3.alloc (.cells #[.int .u64 (x : Int)] 22)).ownsRow w2.heap.size 22 1 (.slice va r.length vc) r.length ((iU r).map (Value.int .u64))) := World.ownsRow.alloc HO3.out _
        have HCA : Hid ((w3.alloc (.cells #[.int .u64 (x : Int)] 22)).cell? ⟨w3.heap.size, 0, none⟩ = some (.int .u64 (x : Int))) := cell_row (MapKept.heap_alloc w3 _).1 0
        have HWA : Hid (Below w2.heap.size w2 (w3.alloc (.cells #[.int .u64 (x : Int)] 22))) := HW3.out.alloc HW3.out.size _
        have hszA : w2.heap.size ≤ (w3.alloc (.cells #[.int .u64 (x : Int)] 22)).heap.size := HWA.out.size
        have HGE : Hid (∀ q, (Value.slice va r.length vc).ownBlock = some q → w2.heap.size ≤ q) := own_ge HO3.out
        clear HO3 HW3
        go_wp2_with (at_builtin; refine Tryd.append_u rfl _ _ rfl w2.heap.size _ r.length (iU r) rfl HOA.out w3.heap.size (x : Int) rfl HCA.out (by omega) hszA ?_)
        intro v7 w7 hown7 hgr7
        have HO7 : Hid (w7.ownsRow w2.heap.size 22 1 v7 (r.length + 1) ((iU r ++ [(x : Int)]).map (Value.int .u64))) := by show World.ownsRow _ _ _ _ _ _ _; simpa using hown7
        have HW7 : Hid (Below w2.heap.size w2 w7) := HWA.out.grown hgr7 hszA (fun q e => HGE.out q e)
        clear hown7 hgr7 HOA HCA HWA hszA HGE
        go_wp2
        go_roundw
        case rel =>
          refine ⟨k + 1, by omega, by go_num, ?_, HW7⟩
          show World.ownsRow _ _ _ _ _ _ _
          rw [HSE.out, List.length_append, iU_snoc]
          exact HO7.out
        case measure => simp [intOf]; omega
    · obtain rfl : k = n := by omega
      have HUs : Hid _ := hUs
      clear hUs
      go_wp2
      go_ret
      refine ⟨va, vc, ?_, ?_, below_step HB0.out HW.out⟩
      · rw [← HE.out]; rfl
      · rw [← HE.out]; exact HUs.out
end Go.Proofs.YtllcjmaecgfijaaDoor
