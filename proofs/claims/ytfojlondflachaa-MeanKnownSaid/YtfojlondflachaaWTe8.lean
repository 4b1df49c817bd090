/- Package term's Bin and Put; cuts of lists of tokens. -/
import Derived.Test.YtfojlondflachaaWTe7
namespace Go.Proofs.Ytfojlondflachaa
open Go.RowKit Go.Maps

theorem Try.cut_to (x : Addr) (len cap hi : Nat) (h : hi ≤ cap) (w : World) : (Instr.sliceAt 22 (.slice (some x) len cap) none (some (.int .i64 (hi : Int))) none).run Try.prog w = .ok (.slice (some x) hi cap) w := by
  simp [Instr.sliceAt, Instr.slice, run_underlying Try.underlying22, sizeOf_run2 Try.sizeTok, go_sem, h]
theorem Try.cut_from (x : Addr) (len cap lo : Nat) (h : lo ≤ len) (w : World) : (Instr.sliceAt 22 (.slice (some x) len cap) (some (.int .i64 (lo : Int))) none none).run Try.prog w = .ok (.slice (some (if cap = lo then x else x.add (lo * 2))) (len - lo) (cap - lo)) w := by
  simp [Instr.sliceAt, Instr.slice, run_underlying Try.underlying22, sizeOf_run2 Try.sizeTok, go_sem, h]
  split <;> rfl
theorem Try.cut_lr (x : Addr) (len cap lo hi : Nat) (h : lo ≤ hi) (hc : hi ≤ cap) (w : World) : (Instr.sliceAt 22 (.slice (some x) len cap) (some (.int .i64 (lo : Int))) (some (.int .i64 (hi : Int))) none).run Try.prog w = .ok (.slice (some (if cap = lo then x else x.add (lo * 2))) (hi - lo) (cap - lo)) w := by
  simp [Instr.sliceAt, Instr.slice, run_underlying Try.underlying22, sizeOf_run2 Try.sizeTok, go_sem, h, hc]
  split <;> rfl
set_option maxHeartbeats 2000000 in
theorem Try.bin_any (op : Nat) (a b : Option Addr) (len cap len' cap' : Nat) (us bs : List Tk) (w : World) (hA : TkSl w a len cap us) (hB : TkSl w b len' cap' bs) (hop : op < 256) :
    Calls Try.prog 52 #[.int .u8 (op : Int), .slice a len cap, .slice b len' cap'] w fun e w' => ToksR 58 (binE op us bs) (us ++ bs ++ [(op, 0)]) w e w' ∧ Below w.heap.size w w' := by
  have hsh := Try.shape_any op w
  have HE : Hid (binE op us bs = if (takesK op).length = 2 then (if refE us ((takesK op).getD 0 0) = 0 then (if refE bs ((takesK op).getD 1 0) = 0 then lookE (us ++ bs ++ [(op, 0)]) 4 else refE bs ((takesK op).getD 1 0)) else refE us ((takesK op).getD 0 0)) else 2) := rfl
  generalize binE op us bs = E at *
  generalize putsK op = q at *
  generalize takesK op = ws at *
  have hlen := hA.hlen
  have hlen' := hB.hlen
  by_cases h1 : ws.length = 2
  · obtain ⟨x, y, rfl⟩ : ∃ x y, ws = [x, y] := by
      match ws, h1 with
      | [x, y], _ => exact ⟨x, y, rfl⟩
    have HE1 : Hid (E = if refE us x = 0 then (if refE bs y = 0 then lookE (us ++ bs ++ [(op, 0)]) 4 else refE bs y) else refE us x) := HE.out
    clear HE h1
    have hrf := fun w' (h : TkSl w' a len cap us) => Try.refusal_any a len cap x us w' h
    have hrg := fun w' (h : TkSl w' b len' cap' bs) => Try.refusal_any b len' cap' y bs w' h
    have HRL : Hid (refE us x = 0 → us.length ≤ 512) := fun h => lookE_len h
    have HSL : Hid (refE bs y = 0 → bs.length ≤ 512) := fun h => lookE_len h
    generalize refE us x = R at *
    generalize refE bs y = S at *
    dsimp only [List.length_cons, List.length_nil, Nat.zero_add] at *
    go_enter Try.func52, Try.ntmps52
    go_wp2_with fail
    refine hsh.mono ?_
    rintro e w1 ⟨c, rfl, hW, hw1, _⟩
    have hix : ∀ w', (Instr.indexAt 96 (.slice c 2 2) (.int .i64 0)).run Try.prog w' = .ok (.pointer (some (adOf c 0))) w' := fun w' => hW.idx 2 0 w' (by decide) (by decide)
    have hiy : ∀ w', (Instr.indexAt 96 (.slice c 2 2) (.int .i64 1)).run Try.prog w' = .ok (.pointer (some (adOf c 1))) w' := fun w' => hW.idx 2 1 w' (by decide) (by decide)
    have hxc : w1.cell? (adOf c 0) = some (.int .u8 (x : Int)) := hW.cell 0 (by decide)
    have hyc : w1.cell? (adOf c 1) = some (.int .u8 (y : Int)) := hW.cell 1 (by decide)
    clear hsh hW
    have hA1 := hA.up hw1
    have hB1 := hB.up hw1
    go_wp2_with fail
    refine (hrf _ hA1).mono ?_
    rintro e w2 ⟨rfl, hw2⟩
    have hA2 := hA1.up hw2
    have hB2 := hB1.up hw2
    have hb2 := below_step hw1 hw2
    have hyc2 := kept_cell hyc hw2
    clear hrf hA1 hB1 hxc hix hw2 hyc
    by_cases hR : R = 0
    · subst hR
      have HE2 : Hid (E = if S = 0 then lookE (us ++ bs ++ [(op, 0)]) 4 else S) := HE1.out
      have hl5 := HRL.out rfl
      clear HE1 HRL
      go_wp2_with fail
      refine (hrg _ hB2).mono ?_
      rintro e w3 ⟨rfl, hw3⟩
      have hA3 := hA2.up hw3
      have hB3 := hB2.up hw3
      have hb3 := below_step hb2 hw3
      clear hrg hA2 hB2 hiy hw3 hyc2 hb2
      by_cases hS : S = 0
      · subst hS
        have HE3 : Hid (E = lookE (us ++ bs ++ [(op, 0)]) 4) := HE2.out
        have hl6 := HSL.out rfl
        clear HE2 HSL
        have hK := Blk.new w3 58 op 0
        have hsz : (w3.alloc (.cells #[.int .u8 (op : Int), .int .u8 ((0 : Nat) : Int)] 58)).heap.size = w3.heap.size + 1 := by simp
        have hR := (MapKept.heap_alloc (w3.alloc (.cells #[.int .u8 (op : Int), .int .u8 ((0 : Nat) : Int)] 58)) (.cells #[.slice a len cap, .slice b len' cap', .slice (some ⟨w3.heap.size, 0, none⟩) 1 1] 22)).1
        rw [hsz] at hR
        have hbn := below_new (w3.alloc (.cells #[.int .u8 (op : Int), .int .u8 ((0 : Nat) : Int)] 58)) (.cells #[.slice a len cap, .slice b len' cap', .slice (some ⟨w3.heap.size, 0, none⟩) 1 1] 22)
        have hbl : Below w3.heap.size w3 _ := (below_new w3 (.cells #[.int .u8 (op : Int), .int .u8 ((0 : Nat) : Int)] 58)).alloc (by omega) (.cells #[.slice a len cap, .slice b len' cap', .slice (some ⟨w3.heap.size, 0, none⟩) 1 1] 22)
        have hA4 := hA3.up hbl
        have hB4 := hB3.up hbl
        have hK4 := hK.up hbn
        have hb4 := below_step hb3 hbl
        have hwh := fun hcell hlt => Try.whole_any (w3.heap.size + 1) [⟨a, len, cap, us⟩, ⟨b, len', cap', bs⟩, ⟨some ⟨w3.heap.size, 0, none⟩, 1, 1, [(op, 0)]⟩] _ hcell hlt (fun p hp => by
          simp only [List.mem_cons, List.not_mem_nil, or_false] at hp
          rcases hp with rfl | rfl | rfl
          · exact hA4
          · exact hB4
          · exact blk_tk hK4 hop (by decide)) (by simp [joinP]; omega) (by simp)
        have hwh2 := hwh (fun k hk => by
          have hk2 : k < 3 := hk
          match k, hk2 with
          | 0, _ => exact (cell_row hR 0).trans rfl
          | 1, _ => exact (cell_row hR 1).trans rfl
          | 2, _ => exact (cell_row hR 2).trans rfl) ((Array.getElem?_eq_some_iff.1 hR).1)
        clear hwh
        have hj : joinP [⟨a, len, cap, us⟩, ⟨b, len', cap', bs⟩, ⟨some ⟨w3.heap.size, 0, none⟩, 1, 1, [(op, 0)]⟩] = us ++ bs ++ [(op, 0)] := by simp [joinP]
        rw [hj] at hwh2
        clear hj hK hR hbn hbl hA4 hB4 hK4 hsz
        generalize lookE (us ++ bs ++ [(op, 0)]) 4 = F at *
        dsimp only [List.length_cons, List.length_nil, Nat.zero_add] at hwh2
        go_wp2_with fail
        refine hwh2.mono ?_
        rintro e w4 ⟨⟨v, rfl, h0, h1⟩, hw4⟩
        have hb5 := below_step hb4 hw4
        have HZ : Hid (F = 0 → w4.ownsRow w.heap.size 58 2 v (us ++ bs ++ [(op, 0)]).length (encT (us ++ bs ++ [(op, 0)]))) := fun h => owns_base (h0 h) hb4.size
        clear h0
        go_wp2
        go_ret2
        rw [HE3.out]
        exact ⟨⟨v, rfl, HZ.out, h1⟩, hb5⟩
      · have hS' : ((S : Int) != 0) = true := by simp; omega
        have HE3 : Hid (E = S) := HE2.out.trans (if_neg hS)
        go_wp2
        go_ret2
        rw [HE3.out]
        exact ⟨⟨_, rfl, fun h => absurd h hS, fun _ => rfl⟩, hb3⟩
    · have hR' : ((R : Int) != 0) = true := by simp; omega
      have HE2 : Hid (E = R) := HE1.out.trans (if_neg hR)
      go_wp2
      go_ret2
      rw [HE2.out]
      exact ⟨⟨_, rfl, fun h => absurd h hR, fun _ => rfl⟩, hb2⟩
  · have HE2 : Hid (E = 2) := HE.out.trans (if_neg h1)
    have hne : ((ws.length : Int) != 2) = true := by simp; omega
    go_enter Try.func52, Try.ntmps52
    go_wp2_with fail
    refine hsh.mono ?_
    rintro e w1 ⟨c, rfl, hW, hw1, _⟩
    clear hW hsh
    go_wp2
    go_ret2
    rw [HE2.out]
    exact ⟨⟨_, rfl, fun h => absurd h (by decide), fun _ => rfl⟩, hw1⟩
end Go.Proofs.Ytfojlondflachaa
