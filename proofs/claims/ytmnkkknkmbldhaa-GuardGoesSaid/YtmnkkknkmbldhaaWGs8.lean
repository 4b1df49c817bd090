/- Package guard: Table. -/
import Derived.Test.YtmnkkknkmbldhaaWGs7
namespace Go.Proofs.Ytmnkkknkmbldhaa
open Go.RowKit Go.Maps

theorem own_neL {w : World} {base n g : Nat} {v : Value} {xs : List Value} {zs : List Int} (h : w.ownsRow base 3 1 v n xs) (hg : LtRow w g zs) : v.ownBlock ≠ some g := by
  rcases h.2 with ⟨rfl, _⟩ | ⟨g', cap, cur, rfl, _, hc, _⟩
  · intro e; cases e
  · intro e
    injection e with e
    dsimp only at e
    subst e
    unfold LtRow at hg
    rw [hg] at hc
    injection hc with hc
    injection hc with _ hc _
    exact absurd hc (by decide)
theorem LtRow.up {w w' : World} {g : Nat} {zs : List Int} (h : LtRow w g zs) (hb : Below w.heap.size w w') : LtRow w' g zs := (hb.block g (Array.getElem?_eq_some_iff.1 h).1).trans h
theorem LtRow.grown {w w' : World} {g : Nat} {zs : List Int} {v : Option Nat} (h : LtRow w g zs) (hb : w.grownBy w' v) (hn : v ≠ some g) : LtRow w' g zs := (hb.block g (Array.getElem?_eq_some_iff.1 h).1 (fun e => hn e.symm)).trans h
set_option maxRecDepth 100000 in
set_option maxHeartbeats 4000000 in
theorem Try.gtab_any (n : Int) (a : Option Addr) (len cap : Nat) (N : List Gd) (r : Int) (w : World) (hN : NdSl w a len cap N) (hr : I64 r) :
    Calls Try.prog 20 #[.int .i64 n, .slice a len cap, .int .i64 r] w (TabR n N r w) := by
  obtain ⟨Q, eQ⟩ : ∃ Q, Q = TabR n N r w := ⟨_, rfl⟩
  have HQ : Hid (∀ e w', TabR n N r w e w' → Q e w') := fun e w' h => by rw [eQ]; exact h
  rw [← eQ]
  clear eQ
  have jc := fun w => Try.gcount_any n w
  by_cases h08 : 0 ≤ n ∧ n ≤ 8
  · rw [decide_eq_true h08] at jc
    obtain ⟨m, rfl⟩ : ∃ m : Nat, n = (m : Int) := ⟨n.toNat, by omega⟩
    have hm8 : m ≤ 8 := by omega
    have hmin : min m 64 = m := by omega
    have hsh := shl_one m hm8
    have hM : 2 ^ m ≤ 256 := Nat.pow_le_pow_right (by decide) hm8
    have HR : Hid (∀ e w', Below w.heap.size w w' → ((tabT N r (2 ^ m) = none ∧ e = .returned (.tuple #[.slice none 0 0, .int .i64 12])) ∨ ∃ l a c, tabT N r (2 ^ m) = some l ∧ e = .returned (.tuple #[.slice a l.length c, .int .i64 0]) ∧ ZSl w' a l.length c l) → Q e w') := fun e w' hb h => HQ.out e w' ⟨hb, .inr ⟨by omega, by omega, by simpa using h⟩⟩
    have jl := fun w => Try.lall_any m hm8 w
    clear HQ h08
    generalize hMM : 2 ^ m = M at *
    clear hMM
    have hmk := fun w => Try.makeRoom M (by omega) w
    have HO0 : Hid ((w.alloc (.cells ((List.replicate M (0 : Int)).map (Value.int .i64)).toArray 3)).ownsRow w.heap.size 3 1 (.slice (some ⟨w.heap.size, 0, none⟩) 0 M) 0 []) := own_room w M (by omega)
    have HB0 : Hid _ := below_new w (.cells ((List.replicate M (0 : Int)).map (Value.int .i64)).toArray 3)
    have HN : Hid _ := hN
    obtain ⟨Z, hZ⟩ : ∃ Z, Z = ((List.replicate M (0 : Int)).map (Value.int .i64)).toArray := ⟨_, rfl⟩
    simp only [← hZ] at hmk HO0 HB0
    clear hZ
    have jl := jl (w.alloc (.cells Z 3))
    clear hN
    go_enter Try.func20, Try.ntmps20
    go_wp2_with (go_at_call 27; (with_reducible refine (jc _).mono ?_); rintro e w' ⟨rfl, hw1⟩; obtain rfl := hw1.symm)
    refine jl.mono ?_
    rintro e w2 ⟨g, rfl, hrow, hb2⟩
    have HL2 : Hid _ := hrow
    have HO2 : Hid (w2.ownsRow w.heap.size 3 1 (.slice (some ⟨w.heap.size, 0, none⟩) 0 M) 0 []) := owns_up HO0.out hb2
    have HB2 : Hid _ := below_step HB0.out hb2
    clear hrow hb2 HO0 HB0 jl hmk jc
    go_wp2
    go_loopw [8, 22] (fun v i wr => ∃ (k : Nat) (l : List Int), k ≤ M ∧ i = .int .i64 k ∧ Hid (tabT N r k = some l) ∧ Hid (wr.ownsRow w.heap.size 3 1 v k (l.map (Value.int .i64))) ∧ Hid (Below w.heap.size w wr) ∧ Hid (LtRow wr g (allTo M M))) (fun _ i _ => M - (intOf i).toNat)
    case atStart => exact ⟨0, [], Nat.zero_le _, rfl, rfl, HO2, HB2, HL2⟩
    case round =>
      clear HO2 HB2 HL2
      obtain ⟨k, l, hk, rfl, HT, HO, HB, HL⟩ := hrel
      by_cases hlt : k < M
      · have hix := fun w' => Try.idxLt g M k hlt w'
        have hce : wr.cell? ⟨g, k, none⟩ = some (.int .u8 (k : Int)) := (cell_row HL.out k).trans (by simp [allTo_get hlt, hlt])
        have jg := Try.ggo_any a len cap N r k wr (HN.out.up HB.out) hr (by omega)
        rcases hg : goG N k 8 r with _ | v
        · have HE : Hid (∀ w6, Below wr.heap.size wr w6 → Q (.returned (.tuple #[.slice none 0 0, .int .i64 12])) w6) := fun w6 hb => HR.out _ _ (below_step HB.out hb) (.inl ⟨tabT_none hg M hlt, rfl⟩)
          rw [hg] at jg
          clear HR HT HO HB hg HL
          go_wp2_with (go_at_call 18; (with_reducible refine jg.mono ?_); rintro e w6 ⟨rfl, hb6⟩; dsimp only [goV]; have HE6 : Hid _ := HE.out w6 hb6; clear hb6 HE)
          exact HE6.out
        · have HT2 : Hid (tabT N r (k + 1) = some (l ++ [v])) := tabT_next HT.out hg
          rw [hg] at jg
          obtain ⟨va, vc, rfl⟩ := own_slZ HO.out
          have HS : Hid (∀ w6, Below wr.heap.size wr w6 → (w6.alloc (.cells #[.int .i64 v] 3)).ownsRow w.heap.size 3 1 (.slice va k vc) k (l.map (Value.int .i64)) ∧ (w6.alloc (.cells #[.int .i64 v] 3)).cell? ⟨w6.heap.size, 0, none⟩ = some (.int .i64 v) ∧ Below w.heap.size w (w6.alloc (.cells #[.int .i64 v] 3)) ∧ LtRow (w6.alloc (.cells #[.int .i64 v] 3)) g (allTo M M)) := fun w6 hb =>
            ⟨World.ownsRow.alloc (owns_up HO.out hb) _, cell_row (MapKept.heap_alloc w6 _).1 0, (below_step HB.out hb).alloc (below_step HB.out hb).size _, (HL.out.up hb).up (below_new w6 _)⟩
          have HNE : Hid ((Value.slice va k vc).ownBlock ≠ some g) := own_neL HO.out HL.out
          have HGE : Hid (∀ q, (Value.slice va k vc).ownBlock = some q → w.heap.size ≤ q) := own_ge HO.out
          clear HR HT hg HO HB HL
          go_wp2_with (first
            | (go_at_call 18; (with_reducible refine jg.mono ?_); rintro e w6 ⟨rfl, hb6⟩; dsimp only [goV]; have HS6 : Hid _ := HS.out w6 hb6; have hszA : w.heap.size ≤ (w6.alloc (.cells #[.int .i64 v] 3)).heap.size := HS6.out.2.2.1.size; clear hb6)
            | (revert hszA; intro hszA; at_builtin; refine Try.append_z rfl _ _ rfl w.heap.size _ k l rfl HS6.out.1 w6.heap.size v rfl HS6.out.2.1 (by omega) hszA ?_)
            | fail)
          intro v7 w7 hown7 hgr7
          have HO7 : Hid (w7.ownsRow w.heap.size 3 1 v7 (k + 1) ((l ++ [v]).map (Value.int .i64))) := by show World.ownsRow _ _ _ _ _ _ _; simpa using hown7
          have HW7 : Hid (Below w.heap.size w w7) := HS6.out.2.2.1.grown hgr7 hszA (fun q e => HGE.out q e)
          have HL7 : Hid (LtRow w7 g (allTo M M)) := HS6.out.2.2.2.grown hgr7 HNE.out
          clear hown7 hgr7 hszA HGE HNE HS HS6
          go_wp2
          go_roundw
          case rel => exact ⟨k + 1, l ++ [v], by omega, by go_num, HT2, HO7, HW7, HL7⟩
          case measure => simp [intOf]; omega
      · obtain rfl : k = M := by omega
        obtain ⟨va, vc, rfl, hU, _⟩ := ownZ_sl HO.out Try.underlying30 Try.sizeInt
        have hl : l.length = k := hU.hlen
        have HE : Hid _ := HR.out _ _ HB.out (.inr ⟨l, va, vc, HT.out, rfl, by rw [hl]; exact hU⟩)
        rw [hl] at HE
        clear HR HT HO HB hU hl HL
        go_wp2
        exact HE.out
  · have HE : Hid _ := HQ.out _ _ ⟨Below.refl _ _, .inl ⟨h08, rfl⟩⟩
    rw [decide_eq_false h08] at jc
    clear HQ h08
    go_enter Try.func20, Try.ntmps20
    go_wp2_with (go_at_call 27; (with_reducible refine (jc _).mono ?_); rintro e w' ⟨rfl, hw1⟩; obtain rfl := hw1.symm)
    exact HE.out
end Go.Proofs.Ytmnkkknkmbldhaa
