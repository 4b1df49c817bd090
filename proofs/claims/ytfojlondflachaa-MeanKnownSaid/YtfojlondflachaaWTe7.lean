/- Package term's whole, Un, Bin. -/
import Derived.Test.YtfojlondflachaaWTe5
import Derived.Test.YtfojlondflachaaWTe6
import Derived.Test.YtfojlondflachaaTermM
namespace Go.Proofs.Ytfojlondflachaa
open Go.RowKit Go.Maps

/-- What whole, Un, Bin and Put answer: tokens, or nothing and the error. -/
def ToksR (T : TypeId) (E : Nat) (ts : List Tk) (w : World) (e : Ending) (w' : World) : Prop :=
  ∃ v, e = .returned (.tuple #[v, .int .i64 (E : Int)]) ∧ (E = 0 → w'.ownsRow w.heap.size T 2 v ts.length (encT ts)) ∧ (E ≠ 0 → v = .slice none 0 0)
theorem join_ok {w : World} {ps : List Pc} (hT : ∀ p ∈ ps, TkSl w p.a p.len p.cap p.ts) : ∀ t ∈ joinP ps, t.1 < 256 ∧ t.2 < 256 := by
  intro t ht
  obtain ⟨p, hp, h⟩ := List.mem_flatMap.1 ht
  exact (hT p hp).ok t h
set_option maxHeartbeats 1000000 in
theorem Try.whole_any (g : Nat) (ps : List Pc) (w : World) (hc : ∀ k (h : k < ps.length), w.cell? ⟨g, k, none⟩ = some (.slice ps[k].a ps[k].len ps[k].cap)) (hg : g < w.heap.size) (hT : ∀ p ∈ ps, TkSl w p.a p.len p.cap p.ts) (hn : (joinP ps).length ≤ 1000000) (hp : ps.length ≤ 1000) :
    Calls Try.prog 65 #[.slice (some ⟨g, 0, none⟩) ps.length ps.length] w fun e w' => ToksR 58 (lookE (joinP ps) 4) (joinP ps) w e w' ∧ Below w.heap.size w w' := by
  have hcc := Try.concat_any g ps w hc hg hT hn hp
  have hok := join_ok hT
  clear hc hT hp hn
  generalize joinP ps = ts at *
  have hl := fun a len cap w' (h : TkSl w' a len cap ts) => Try.look_any a len cap 4 ts w' h
  generalize hEE : lookE ts 4 = E at *
  generalize ps.length = n at *
  go_enter Try.func65, Try.ntmps65
  go_wp2_with fail
  refine hcc.mono ?_
  rintro e w1 ⟨v, rfl, hown, hw1⟩
  have HO : Hid (w1.ownsRow w.heap.size 58 2 v ts.length (encT ts)) := hown
  obtain ⟨a2, cap2, rfl, hT2, _⟩ := own_tk hown hok
  clear hown hcc
  have hl2 := hl a2 ts.length cap2 w1 hT2
  clear hl hT2 hok hEE
  go_wp2_with fail
  refine hl2.mono ?_
  rintro e w2 ⟨⟨v3, rfl, _, _⟩, hw2⟩
  have HO2 : Hid (w2.ownsRow w.heap.size 58 2 (.slice a2 ts.length cap2) ts.length (encT ts)) := owns_up HO.out hw2
  have hb2 := below_step hw1 hw2
  clear hl2 HO hw2
  by_cases hE : E = 0
  · subst hE
    go_wp2
    go_ret2
    exact ⟨⟨.slice a2 ts.length cap2, rfl, fun _ => HO2.out, fun h => absurd rfl h⟩, hb2⟩
  · have hE' : ((E : Int) != 0) = true := by simp; omega
    go_wp2
    go_ret2
    exact ⟨⟨_, rfl, fun h => absurd h hE, fun _ => rfl⟩, hb2⟩
theorem blk_tk {w : World} {g : Nat} {t : TypeId} {a b : Nat} (h : Blk w g t a b) (ha : a < 256) (hb : b < 256) : TkSl w (some ⟨g, 0, none⟩) 1 1 [(a, b)] := by
  refine ⟨rfl, Nat.le_refl _, by decide, fun hn => (nomatch hn), fun x hx k hk => ?_, fun x hx k hk => ?_, fun t ht => ?_⟩
  · injection hx with hx; subst hx
    obtain rfl : k = 0 := by simpa using hk
    exact h.c0
  · injection hx with hx; subst hx
    obtain rfl : k = 0 := by simpa using hk
    exact h.c1
  · rw [List.mem_singleton.1 ht]; exact ⟨ha, hb⟩
theorem lookE_len {ts : List Tk} {want : Nat} (h : lookE ts want = 0) : ts.length ≤ 512 := (lookE_zero.1 h).1
set_option maxHeartbeats 2000000 in
theorem Try.un_any (op : Nat) (a : Option Addr) (len cap : Nat) (ts : List Tk) (w : World) (hT : TkSl w a len cap ts) (hop : op < 256) :
    Calls Try.prog 51 #[.int .u8 (op : Int), .slice a len cap] w fun e w' => ToksR 58 (unE op ts) (ts ++ [(op, 0)]) w e w' ∧ Below w.heap.size w w' := by
  have hsh := Try.shape_any op w
  have HE : Hid (unE op ts = if (takesK op).length = 1 then (if refE ts ((takesK op).getD 0 0) = 0 then lookE (ts ++ [(op, 0)]) 4 else refE ts ((takesK op).getD 0 0)) else 2) := rfl
  generalize unE op ts = E at *
  generalize putsK op = q at *
  generalize takesK op = ws at *
  have hlen := hT.hlen
  by_cases h1 : ws.length = 1
  · obtain ⟨x, rfl⟩ := List.length_eq_one_iff.1 h1
    have HE1 : Hid (E = if refE ts x = 0 then lookE (ts ++ [(op, 0)]) 4 else refE ts x) := HE.out
    clear HE h1
    have hrf := fun w' (h : TkSl w' a len cap ts) => Try.refusal_any a len cap x ts w' h
    have HRL : Hid (refE ts x = 0 → ts.length ≤ 512) := fun h => lookE_len h
    generalize refE ts x = R at *
    dsimp only [List.length_singleton] at *
    go_enter Try.func51, Try.ntmps51
    go_wp2_with fail
    refine hsh.mono ?_
    rintro e w1 ⟨b, rfl, hW, hw1, _⟩
    have hix : ∀ w', (Instr.indexAt 96 (.slice b 1 1) (.int .i64 0)).run Try.prog w' = .ok (.pointer (some (adOf b 0))) w' := fun w' => hW.idx 1 0 w' (by decide) (by decide)
    have hxc : w1.cell? (adOf b 0) = some (.int .u8 (x : Int)) := hW.cell 0 (by decide)
    clear hsh hW
    have hT1 := hT.up hw1
    go_wp2_with fail
    refine (hrf _ hT1).mono ?_
    rintro e w2 ⟨rfl, hw2⟩
    have hT2 := hT1.up hw2
    have hb2 := below_step hw1 hw2
    clear hrf hT1 hxc hix hw2
    by_cases hR : R = 0
    · subst hR
      have HE2 : Hid (E = lookE (ts ++ [(op, 0)]) 4) := HE1.out
      have hl5 := HRL.out rfl
      clear HE1 HRL
      have hB := Blk.new w2 58 op 0
      have hsz : (w2.alloc (.cells #[.int .u8 (op : Int), .int .u8 ((0 : Nat) : Int)] 58)).heap.size = w2.heap.size + 1 := by simp
      have hR := (MapKept.heap_alloc (w2.alloc (.cells #[.int .u8 (op : Int), .int .u8 ((0 : Nat) : Int)] 58)) (.cells #[.slice a len cap, .slice (some ⟨w2.heap.size, 0, none⟩) 1 1] 22)).1
      rw [hsz] at hR
      have hbn := below_new (w2.alloc (.cells #[.int .u8 (op : Int), .int .u8 ((0 : Nat) : Int)] 58)) (.cells #[.slice a len cap, .slice (some ⟨w2.heap.size, 0, none⟩) 1 1] 22)
      have hbl : Below w2.heap.size w2 _ := (below_new w2 (.cells #[.int .u8 (op : Int), .int .u8 ((0 : Nat) : Int)] 58)).alloc (by omega) (.cells #[.slice a len cap, .slice (some ⟨w2.heap.size, 0, none⟩) 1 1] 22)
      have hT3 := hT2.up hbl
      have hB3 := hB.up hbn
      have hb3 := below_step hb2 hbl
      have hwh := fun hcell hlt => Try.whole_any (w2.heap.size + 1) [⟨a, len, cap, ts⟩, ⟨some ⟨w2.heap.size, 0, none⟩, 1, 1, [(op, 0)]⟩] _ hcell hlt (fun p hp => by
        simp only [List.mem_cons, List.not_mem_nil, or_false] at hp
        rcases hp with rfl | rfl
        · exact hT3
        · exact blk_tk hB3 hop (by decide)) (by simp [joinP]; omega) (by simp)
      have hwh2 := hwh (fun k hk => by
        have hk2 : k < 2 := hk
        match k, hk2 with
        | 0, _ => exact (cell_row hR 0).trans rfl
        | 1, _ => exact (cell_row hR 1).trans rfl) ((Array.getElem?_eq_some_iff.1 hR).1)
      clear hwh
      have hj : joinP [⟨a, len, cap, ts⟩, ⟨some ⟨w2.heap.size, 0, none⟩, 1, 1, [(op, 0)]⟩] = ts ++ [(op, 0)] := by simp [joinP]
      rw [hj] at hwh2
      clear hj hB hR hbn hbl hT3 hB3 hsz
      generalize lookE (ts ++ [(op, 0)]) 4 = F at *
      dsimp only [List.length_cons, List.length_nil, Nat.zero_add] at hwh2
      go_wp2_with fail
      refine hwh2.mono ?_
      rintro e w4 ⟨⟨v, rfl, h0, h1⟩, hw4⟩
      have hb4 := below_step hb3 hw4
      have HZ : Hid (F = 0 → w4.ownsRow w.heap.size 58 2 v (ts ++ [(op, 0)]).length (encT (ts ++ [(op, 0)]))) := fun h => owns_base (h0 h) hb3.size
      clear h0
      go_wp2
      go_ret2
      rw [HE2.out]
      exact ⟨⟨v, rfl, HZ.out, h1⟩, hb4⟩
    · have hR' : ((R : Int) != 0) = true := by simp; omega
      have HE2 : Hid (E = R) := HE1.out.trans (if_neg hR)
      go_wp2
      go_ret2
      rw [HE2.out]
      exact ⟨⟨_, rfl, fun h => absurd h hR, fun _ => rfl⟩, hb2⟩
  · have HE2 : Hid (E = 2) := HE.out.trans (if_neg h1)
    have hne : ((ws.length : Int) != 1) = true := by simp; omega
    go_enter Try.func51, Try.ntmps51
    go_wp2_with fail
    refine hsh.mono ?_
    rintro e w1 ⟨b, rfl, hW, hw1, _⟩
    clear hW hsh
    go_wp2
    go_ret2
    rw [HE2.out]
    exact ⟨⟨_, rfl, fun h => absurd h (by decide), fun _ => rfl⟩, hw1⟩
end Go.Proofs.Ytfojlondflachaa
