/- Package guard: place. -/
import Derived.Test.YtmnkkknkmbldhaaWGs1
import Derived.Deep.RegionLaw
import Derived.Deep.DeepCutAuto
namespace Go.Proofs.Ytmnkkknkmbldhaa
open Go.RowKit Go.Maps

/-- What the walk of place has behind the nodes' growing. -/
structure MidG (w w6 : World) (g n g5 L c5 mb : Nat) (N : List Gd) (x : Gd) (v : Value) : Prop where
  blk : w6.heap[g]? = some (stO g n (.slice (some ⟨g5, 0, none⟩) (L + 1) c5) mb)
  row : w6.ownsRow 0 44 3 (.slice (some ⟨g5, 0, none⟩) (L + 1) c5) (L + 1) (encG (N ++ [x]))
  num : NumG w6 mb L (posG N)
  os : w6.os = w.os
  tape : w6.tape = w.tape
  output : w6.output = w.output
  size : w.heap.size ≤ w6.heap.size
  keep : ∀ k, k < w.heap.size → k ≠ g → v.ownBlock ≠ some k → w6.heap[k]? = w.heap[k]?
  loc : v.ownBlock = some g5 ∨ w.heap.size ≤ g5
theorem midG_of {w w5 : World} {g n cap mb : Nat} {a : Option Addr} {N : List Gd} (h : StR w g n a N.length cap mb N) (x : Gd) {g5 c5 : Nat}
    (hg : (w.alloc (ndO x)).drew.grownBy w5 (Value.slice a N.length cap).ownBlock) (ho : w5.ownsRow 0 44 3 (.slice (some ⟨g5, 0, none⟩) (N.length + 1) c5) (N.length + 1) (encG (N ++ [x])))
    (hl : (Value.slice a N.length cap).ownBlock = some g5 ∨ g5 = (w.alloc (ndO x)).drew.heap.size) :
    w5.heap[g]? = some (stO g n (.slice a N.length cap) mb) ∧ MidG w (w5.setCell ⟨g, 2, none⟩ (.slice (some ⟨g5, 0, none⟩) (N.length + 1) c5)) g n g5 N.length c5 mb N x (.slice a N.length cap) := by
  have hb1 := below_new w (ndO x)
  have hgl := (Array.getElem?_eq_some_iff.1 h.blk).1
  have hne : (Value.slice a N.length cap).ownBlock ≠ some g := own_neG h.row h.blk (fun cs e => by injection e with _ e _; exact absurd e (by decide))
  obtain ⟨es, cl, hmap⟩ := h.num.isMap
  have hnm : (Value.slice a N.length cap).ownBlock ≠ some mb := own_neG h.row hmap (fun cs e => by cases e)
  have hmt : mb ≠ g := fun e => by rw [e, h.blk] at hmap; cases hmap
  have hz : (w.alloc (ndO x)).drew.heap.size = w.heap.size + 1 := by simp
  have st : ∀ k, k < w.heap.size → (Value.slice a N.length cap).ownBlock ≠ some k → w5.heap[k]? = w.heap[k]? := fun k hk hn => (hg.block k (by omega) (fun e => hn e.symm)).trans (hb1.block k hk)
  have h5 := (st g hgl hne).trans h.blk
  have hs5 := hg.size
  refine ⟨h5, ⟨?_, ?_, ?_, hg.os, hg.tape, hg.output, ?_, fun k hk hkt hkn => ?_, ?_⟩⟩
  · unfold stO at h5 ⊢
    rw [heap_setCell_same w5 g 2 _ _ _ h5]; rfl
  · refine own_farG ho fun k hk => Below.heap_setCell _ _ _ _ ?_
    dsimp only
    rintro rfl
    simp [Value.ownBlock] at hk
    subst hk
    rcases hl with e | e
    · exact hne e
    · omega
  · exact h.num.far ((Below.heap_setCell _ _ _ _ (by dsimp only; exact hmt)).trans (st mb h.num.lt hnm))
  · simp; omega
  · exact (Below.heap_setCell _ _ _ _ (by dsimp only; exact hkt)).trans (st k hk hkn)
  · rcases hl with e | e
    · exact .inl e
    · right; omega
theorem place_fin {w w6 w7 : World} {F : Nat → Prop} {g n cap mb : Nat} {a : Option Addr} {N : List Gd} (h : StG w F g n N) (hF : ∀ k, F k ↔ (k = g ∨ k = mb ∨ (Value.slice a N.length cap).ownBlock = some k)) {x : Gd} (hx : GdOk x) (hn : x ∉ N)
    {g5 c5 : Nat} (m : MidG w w6 g n g5 N.length c5 mb N x (.slice a N.length cap)) (hn7 : NumG w7 mb (N.length + 1) (fun y => if y = x then some N.length else posG N y)) (hg : w6.drew.grownBy w7 (some mb)) :
    ∃ F', StG w7 F' g n (N ++ [x]) ∧ Fr w w7 F F' := by
  have hsz := m.size
  have hs7 := hg.size
  have hs7' : w6.heap.size ≤ w7.heap.size := hs7
  obtain ⟨es, cl, hmap⟩ := m.num.isMap
  have hmt : g ≠ mb := fun e => by rw [← e, m.blk] at hmap; cases hmap
  have hnm : (Value.slice (some ⟨g5, 0, none⟩) (N.length + 1) c5).ownBlock ≠ some mb := own_neG m.row hmap (fun cs e => by cases e)
  have hgl : g < w6.heap.size := (Array.getElem?_eq_some_iff.1 m.blk).1
  have st : ∀ k, k < w6.heap.size → k ≠ mb → w7.heap[k]? = w6.heap[k]? := fun k hk hne => hg.block k hk (fun e => hne (by injection e))
  refine ⟨fun k => k = g ∨ k = mb ∨ (Value.slice (some ⟨g5, 0, none⟩) (N.length + 1) c5).ownBlock = some k, ⟨?_, ?_, .slice (some ⟨g5, 0, none⟩) (N.length + 1) c5, mb, (st g hgl hmt).trans m.blk, ?_, ?_, fun k => Iff.rfl⟩, ?_⟩
  · exact List.nodup_append.2 ⟨h.nd, by simp, fun a ha b hb => by simp at hb; subst hb; exact fun e => hn (e ▸ ha)⟩
  · intro y hy
    rcases List.mem_append.1 hy with hy | hy
    · exact h.ok y hy
    · simp at hy; subst hy; exact hx
  · rw [List.length_append]
    exact own_farG m.row fun k hk => st k (m.row.lt k hk).2 (fun e => hnm (e ▸ hk))
  · rw [List.length_append]
    exact hn7.alike fun y _ => posG_more hn y
  · refine ⟨hg.os.trans m.os, hg.tape.trans m.tape, hg.output.trans m.output, by omega, fun k hk hf => ?_, fun k hk => ?_⟩
    · have hf' := fun e => hf ((hF k).2 e)
      exact (st k (by omega) (fun e => hf' (Or.inr (Or.inl e)))).trans (m.keep k hk (fun e => hf' (Or.inl e)) (fun e => hf' (Or.inr (Or.inr e))))
    · rcases hk with rfl | rfl | hk
      · exact Or.inl ((hF k).2 (Or.inl rfl))
      · exact Or.inl ((hF k).2 (Or.inr (Or.inl rfl)))
      · simp [Value.ownBlock] at hk
        subst hk
        rcases m.loc with e | e
        · exact Or.inl ((hF _).2 (Or.inr (Or.inr e)))
        · exact Or.inr e
/-- What place answers. -/
def PlR (g n : Nat) (N : List Gd) (x : Gd) (F : Nat → Prop) (w : World) (e : Ending) (w' : World) : Prop := e = .returned (.int .i64 (N.idxOf x : Int)) ∧ ∃ F', StG w' F' g n (if x ∈ N then N else N ++ [x]) ∧ Fr w w' F F'
set_option maxRecDepth 100000 in
set_option maxHeartbeats 4000000 in
theorem Try.gplace_any {w : World} {F : Nat → Prop} {g n : Nat} {N : List Gd} (h : StG w F g n N) (x : Gd) (hx : GdOk x) (hN : N.length ≤ 1000000) :
    Calls Try.prog 46 #[.pointer (some ⟨g, 0, none⟩), ndV x] w (PlR g n N x F w) := by
  obtain ⟨a, cap, mb, hr, hF⟩ := h.read
  have hb1 := below_new w (ndO x)
  have hr1 := hr.up hb1
  have c3 := hr1.c3
  have hlk := fun m => (show NumG ((w.alloc (ndO x)).drewN m) mb N.length (posG N) from hr1.num).look hx
  have HB1 : Hid _ := hb1
  have HR : Hid _ := hr
  have HF : Hid _ := hF
  have HI : Hid _ := h
  have HX : Hid _ := hx
  have hbx := (MapKept.heap_alloc w (ndO x)).1
  have HBX : Hid _ := hbx
  by_cases hm : x ∈ N
  · have HE : Hid (∀ nq, PlR g n N x F w (.returned (.int .i64 (N.idxOf x : Int))) ((w.alloc (ndO x)).drewN nq)) := fun nq => by
      refine ⟨rfl, F, ?_, Fr.ofBelow (below_drewN hb1 nq)⟩
      rw [if_pos hm]
      exact h.up (below_drewN hb1 nq)
    rw [posG_in hm] at hlk
    generalize PlR g n N x F w = Q at *
    generalize N.idxOf x = j at *
    clear h hr hr1 hF hx hb1 hbx hm HB1 HR HF HI HX HBX
    obtain ⟨P, lo, hi⟩ := x
    unfold ndV at hlk
    unfold ndO at c3 HE hlk
    dsimp only [Option.getD, Option.isSome] at c3 HE hlk
    unfold ndV
    dsimp only
    go_enter Try.func46, Try.ntmps46
    go_upto_region 15 with fail
    go_quiet (fail)
    go_wp2
    exact HE.out _
  · have HNM : Hid _ := hm
    have HQ0 : Hid (∀ e w', (e = .returned (.int .i64 (N.length : Int)) ∧ ∃ F', StG w' F' g n (N ++ [x]) ∧ Fr w w' F F') → PlR g n N x F w e w') := fun e w' h => by
      unfold PlR
      rw [idx_out hm, if_neg hm]; exact h
    rw [posG_out hm] at hlk
    generalize PlR g n N x F w = Q at *
    clear h hr hr1 hF hx hb1 hbx hm
    obtain ⟨P, lo, hi⟩ := x
    unfold ndV at hlk
    unfold ndO at c3 hlk HB1 HBX
    dsimp only [Option.getD, Option.isSome] at c3 hlk HB1 HBX
    unfold ndV
    dsimp only
    go_enter Try.func46, Try.ntmps46
    go_upto_region 15 with fail
    go_quiet (fail)
    have HBq : Hid _ := below_drewN HB1.out nq
    have hbq : ((w.alloc (.cells #[.int .i64 P, .int .i64 lo, .int .i64 hi] 44 (0, 0))).drewN nq).heap[w.heap.size]? = some (.cells #[.int .i64 P, .int .i64 lo, .int .i64 hi] 44 (0, 0)) := by simpa using HBX.out
    have HBXq : Hid _ := hbq
    clear hlk c3 hbq HB1 HBX
    generalize (w.alloc (.cells #[.int .i64 P, .int .i64 lo, .int .i64 hi] 44 (0, 0))).drewN nq = w1 at *
    have hr1 := HR.out.up HBq.out
    have c2 := hr1.c2
    have b0 : w1.cell? ⟨w.heap.size, 0, none⟩ = some (.int .i64 P) := cell_row HBXq.out 0
    have b1 : w1.cell? ⟨w.heap.size, 1, none⟩ = some (.int .i64 lo) := cell_row HBXq.out 1
    have b2 : w1.cell? ⟨w.heap.size, 2, none⟩ = some (.int .i64 hi) := cell_row HBXq.out 2
    have hO : (w1.alloc (.cells #[.int .i64 P, .int .i64 lo, .int .i64 hi] 44 (0, 0))).drew.ownsRow 0 44 3 (.slice a N.length cap) N.length (encG N) := World.ownsRow.alloc hr1.row _
    have hB : (w1.alloc (.cells #[.int .i64 P, .int .i64 lo, .int .i64 hi] 44 (0, 0))).drew.heap[w1.heap.size]? = some (ndO (P, lo, hi)) := (MapKept.heap_alloc w1 _).1
    have c2b : (w1.alloc (.cells #[.int .i64 P, .int .i64 lo, .int .i64 hi] 44 (0, 0))).cell? ⟨g, 2, none⟩ = some (.slice a N.length cap) := kept_cell c2 (below_new w1 _)
    have HM : Hid _ := fun g5 c5 w5 q1 q2 q3 => midG_of (w5 := w5) hr1 (P, lo, hi) (g5 := g5) (c5 := c5) q1 q2 q3
    have HNE : Hid ((Value.slice a N.length cap).ownBlock ≠ some w.heap.size) := fun e => by have := (HR.out.row.lt _ e).2; omega
    have HI1 : Hid _ := HI.out.up HBq.out
    unfold ndO at HM
    clear hr1
    generalize hL : N.length = L at *
    have HL : Hid (N.length = L) := hL
    clear hL
    go_upto_region 15 with fail
    go_region_law ((refine Try.stepg_nd rfl _ _ rfl 0 (.slice a L cap) L N (P, lo, hi) w1.heap.size rfl rfl hO hB (by omega) (Nat.zero_le _) ?_; intro g5 c5 w5 hown5 hgr5 hloc5; have m5 := HM.out g5 c5 w5 hgr5 hown5 hloc5; have c5' : w5.cell? ⟨g, 2, none⟩ = some (.slice a L cap) := cell_row m5.1 2; have z5 : w5.frozen? ⟨g, 2, none⟩ = false := frozen_of_row w5 _ 2 _ _ m5.1))
    all_goals
      have HM6 : Hid _ := m5.2
      clear hO hB c2 c2b b0 b1 b2 c5' z5 m5 hown5 hgr5 hloc5
      generalize w5.setCell ⟨g, 2, none⟩ (.slice (some ⟨g5, 0, none⟩) (L + 1) c5) = w6 at *
      have t3 : w6.cell? ⟨g, 3, none⟩ = some (.map (some mb)) := cell_row HM6.out.blk 3
      have hbx6 := (HM6.out.keep w.heap.size (World.block_lt_of_cell? _ _ (cell_row HBXq.out 0)) (fun e => by have := HI.out.lt g ((HF.out g).2 (.inl rfl)); omega) HNE.out).trans HBXq.out
      have b0 : w6.cell? ⟨w.heap.size, 0, none⟩ = some (.int .i64 P) := cell_row hbx6 0
      have b1 : w6.cell? ⟨w.heap.size, 1, none⟩ = some (.int .i64 lo) := cell_row hbx6 1
      have b2 : w6.cell? ⟨w.heap.size, 2, none⟩ = some (.int .i64 hi) := cell_row hbx6 2
      obtain ⟨w7, hrun, hn7, hg7⟩ := (show NumG w6.drew mb L (posG N) from HM6.out.num).put (by omega) (x := (P, lo, hi)) HX.out (posG_out HNM.out) L (by omega)
      unfold ndV at hrun
      dsimp only at hrun
      have HN7 : Hid _ := hn7
      have HG7 : Hid _ := hg7
      clear hn7 hg7 hbx6
      go_upto_region 15 with fail
      go_region
      all_goals
        clear hrun t3 b0 b1 b2
        have HE : Hid (Q (.returned (.int .i64 (L : Int))) w7) := by
          have e := HL.out
          subst e
          obtain ⟨F', q1, q2⟩ := place_fin (x := (P, lo, hi)) HI1.out HF.out HX.out HNM.out HM6.out HN7.out HG7.out
          exact HQ0.out _ _ ⟨rfl, F', q1, (Fr.ofBelow HBq.out).trans q2⟩
        clear HQ0
        go_wp2
        exact HE.out
end Go.Proofs.Ytmnkkknkmbldhaa
