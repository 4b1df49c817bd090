/- The law TermUp. -/
import Derived.Test.YtgnhccjcokhmhaaWTl1
namespace Go.Proofs.Ytgnhccjcokhmhaa
open Go.RowKit Go.Maps

theorem Try.termUp_long (a : Option Addr) (len cap : Nat) (w : World) (h : 150 < len) :
    Calls Try.prog 6 #[.slice a len cap] w fun e w' => e = .returned (.bool true) ∧ Below w.heap.size w w' := by
  have ha := Try.awake_any w
  have h1 : (150 : Int) < (len : Int) := by omega
  go_enter Try.func6, Try.ntmps6
  go_wp2_with fail
  refine ha.mono ?_
  rintro e w1 ⟨rfl, hw1⟩
  go_wp2
  go_ret
  exact ⟨rfl, hw1⟩
set_option maxHeartbeats 1000000 in
/-- No formula and no path. -/
theorem Try.termUp_none (a : Option Addr) (len cap : Nat) (ts : List Tk) (w : World) (hT : TkSl w a len cap ts) (h : len ≤ 150) (h1 : lookE ts 1 ≠ 0) (h3 : lookE ts 3 ≠ 0) :
    Calls Try.prog 6 #[.slice a len cap] w fun e w' => e = .returned (.bool true) ∧ Below w.heap.size w w' := by
  have ha := Try.awake_any w
  have hlt : ¬ 150 < len := by omega
  have hC := fun w' (h : TkSl w' a len cap ts) => Try.check_any a len cap ts w' h
  have hP := fun w' (h : TkSl w' a len cap ts) => Try.path_any a len cap ts w' h
  generalize lookE ts 1 = E1 at *
  generalize lookE ts 3 = E3 at *
  have h1' : ((E1 : Int) != 0) = true := by simp; omega
  have h3' : ((E3 : Int) != 0) = true := by simp; omega
  go_enter Try.func6, Try.ntmps6
  go_wp2_with fail
  refine ha.mono ?_
  rintro e w1 ⟨rfl, hw1⟩
  go_wp2_with fail
  refine (hC _ (hT.up hw1)).mono ?_
  rintro e w2 ⟨rfl, hw2⟩
  have hb2 := below_step hw1 hw2
  go_wp2_with fail
  refine (hP _ (hT.up hb2)).mono ?_
  rintro e w3 ⟨rfl, hw3⟩
  have hb3 := below_step hb2 hw3
  go_wp2
  go_ret
  exact ⟨rfl, hb3⟩
set_option maxHeartbeats 1000000 in
/-- One token. -/
theorem Try.termUp_short (a : Option Addr) (len cap : Nat) (ts : List Tk) (w : World) (hT : TkSl w a len cap ts) (h : len < 2) (h13 : lookE ts 1 = 0 ∨ lookE ts 3 = 0) :
    Calls Try.prog 6 #[.slice a len cap] w fun e w' => e = .returned (.bool true) ∧ Below w.heap.size w w' := by
  have ha := Try.awake_any w
  have hlt : ¬ 150 < len := by omega
  have hl2 : (len : Int) < 2 := by omega
  have hC := fun w' (h : TkSl w' a len cap ts) => Try.check_any a len cap ts w' h
  have hP := fun w' (h : TkSl w' a len cap ts) => Try.path_any a len cap ts w' h
  by_cases h1 : lookE ts 1 = 0
  · rw [h1] at hC
    clear h13 h1
    go_enter Try.func6, Try.ntmps6
    go_wp2_with fail
    refine ha.mono ?_
    rintro e w1 ⟨rfl, hw1⟩
    go_wp2_with fail
    refine (hC _ (hT.up hw1)).mono ?_
    rintro e w2 ⟨rfl, hw2⟩
    have hb2 := below_step hw1 hw2
    go_wp2
    go_ret
    exact ⟨rfl, hb2⟩
  · have h3 : lookE ts 3 = 0 := by rcases h13 with h | h; exact absurd h h1; exact h
    rw [h3] at hP
    clear h13 h3
    generalize lookE ts 1 = E1 at *
    have h1' : ((E1 : Int) != 0) = true := by simp; omega
    go_enter Try.func6, Try.ntmps6
    go_wp2_with fail
    refine ha.mono ?_
    rintro e w1 ⟨rfl, hw1⟩
    go_wp2_with fail
    refine (hC _ (hT.up hw1)).mono ?_
    rintro e w2 ⟨rfl, hw2⟩
    have hb2 := below_step hw1 hw2
    go_wp2_with fail
    refine (hP _ (hT.up hb2)).mono ?_
    rintro e w3 ⟨rfl, hw3⟩
    have hb3 := below_step hb2 hw3
    go_wp2
    go_ret
    exact ⟨rfl, hb3⟩
theorem frm_ints {ts : List Tk} {k : Nat} (hk : k < (allP ts).length) : ((allP ts).map fun p => (p.frm : Int)).getD k 0 = (frmAt ts k : Int) := by
  unfold frmAt; simp [List.getD_eq_getElem?_getD, List.getElem?_eq_getElem hk]
theorem dep_ints {ts : List Tk} {k : Nat} (hk : k < (allP ts).length) : ((allP ts).map fun p => (p.dep : Int)).getD k 0 = (depAt ts k : Int) := by
  unfold depAt; simp [List.getD_eq_getElem?_getD, List.getElem?_eq_getElem hk]
set_option maxRecDepth 100000 in
set_option maxHeartbeats 4000000 in
/-- A formula or a path of more tokens. -/
theorem Try.termUp_go (x : Addr) (len n cap : Nat) (ts : List Tk) (w : World) (hT : TkSl w (some x) len cap ts) (h : len ≤ 150) (HLN : Hid (len = n + 1)) (hn : 0 < n) (h13 : lookE ts 1 = 0 ∨ lookE ts 3 = 0) :
    Calls Try.prog 6 #[.slice (some x) len cap] w fun e w' => e = .returned (.bool true) ∧ Below w.heap.size w w' := by
  have hln := HLN.out
  have hlen := hT.hlen
  obtain ⟨h4, hsn, op, hop, hop2, hun, hbin⟩ := up_plain h13 n (by omega) hn
  have ha := Try.awake_any w
  have hal := allP_len h4
  have hC := fun w' (h : TkSl w' (some x) len cap ts) => Try.check_any (some x) len cap ts w' h
  have hP := fun w' (h : TkSl w' (some x) len cap ts) => Try.path_any (some x) len cap ts w' h
  have hB := fun w' (h : TkSl w' (some x) len cap ts) => Try.blocks_any (some x) len cap ts w' h
  rw [h4] at hB
  have hzl : ((allP ts).map fun p => (p.frm : Int)).length = len := by simp; omega
  obtain ⟨m, hm⟩ : ∃ m, m = n - 1 := ⟨_, rfl⟩
  have hzf := frm_ints (ts := ts) (k := m) (by omega)
  generalize ((allP ts).map fun p => (p.frm : Int)) = zs at *
  rw [← hm] at hsn hun hbin
  obtain ⟨S, hS⟩ : ∃ S, S = frmAt ts m := ⟨_, rfl⟩
  rw [← hS] at hsn hun hbin hzf
  clear hS hal
  have hnt : n < ts.length := by omega
  have htn : ts[n]'hnt = (op, 0) := by
    rw [List.getElem?_eq_getElem hnt] at hop; injection hop
  have hcap := hT.hcap
  have hlt : ¬ 150 < len := by omega
  have hl2 : ¬ (len < 2) := by omega
  have hw1 : IntKind.i64.wrap ((len : Int) - 1) = (n : Int) := by rw [IntKind.wrap_i64]; omega
  have hw2 : IntKind.i64.wrap ((n : Int) - 1) = (m : Int) := by rw [IntKind.wrap_i64]; omega
  have hmlen : m < len := by omega
  have hnlen : n < len := by omega
  have hncap : n ≤ cap := by omega
  have hSn : ¬ (n < S) := by omega
  have HUN : Hid _ := hun
  have HBI : Hid _ := hbin
  have hTk : Hid (TkSl w (some x) len cap ts) := hT
  have hal2 : ts.length ≤ 10000 := by omega
  clear hun hbin hop hln hm
  by_cases h1 : lookE ts 1 = 0
  · rw [h1] at hC
    clear h13 h1 hP
    go_enter Try.func6, Try.ntmps6
    go_wp2_with fail
    refine ha.mono ?_
    rintro e w1 ⟨rfl, hw1'⟩
    go_wp2_with fail
    refine (hC _ (hT.up hw1')).mono ?_
    rintro e w2 ⟨rfl, hw2'⟩
    have hbH := below_step hw1' hw2'
    clear hw1' hw2' hC ha
    have hTb := hTk.out.up hbH
    go_wp2_with fail
    refine (hB _ hTb).mono ?_
    rintro e w4 ⟨⟨v4, rfl, hr4, _⟩, hw4⟩
    have hO4 := hr4 rfl
    have hb4 := below_step hbH hw4
    clear hr4 hw4 hB hTb
    rw [hzl] at hO4
    obtain ⟨a4, cap4, rfl, hI4, _⟩ := ownI_sl hO4 Try.underlying25 Try.sizeInt
    have hix4 := fun w' => hI4.idx len m w' hmlen (Nat.le_refl _)
    have hc4 := hI4.cell m hmlen
    rw [hzf] at hc4
    clear hO4 hI4 hzf hzl
    have hT4 := hTk.out.up hb4
    obtain ⟨g, o, s, hia, hc0, hc1, _, _⟩ := hT4.at Try.underlying22 Try.sizeTok n hnlen
    have hidx := fun w' => hia len w' hnlen
    rw [htn] at hc0 hc1
    clear hia
    dsimp only at hc0 hc1
    by_cases hS0 : S = 0
    · subst hS0
      obtain ⟨hu0, hu1⟩ := HUN.out rfl
      have hsl := fun w' => Try.cut_to x len cap n hncap w'
      have hTn : ∀ w', TkSl w' (some x) len cap ts → TkSl w' (some x) n cap (ts.take n) := fun w' h => by
        have h := h.cut 0 n (Nat.zero_le _) (by omega)
        have e : (if cap = 0 then x else x.add (0 * 2)) = x := by split <;> simp [Addr.add]
        rw [e, Nat.sub_zero, Nat.sub_zero, List.drop_zero] at h
        exact h
      have hU : ∀ w', Below w4.heap.size w4 w' → Calls Try.prog 25 #[.int .u8 (op : Int), .slice (some x) n cap] w' fun e w'' => (∃ v, e = .returned (.tuple #[v, .int .i64 0]) ∧ w''.ownsRow w'.heap.size 50 2 v ts.length (encT ts)) ∧ Below w'.heap.size w' w'' := fun w' hb => by
        refine (Try.un_any op (some x) n cap (ts.take n) w' (hTn _ (hT4.up hb)) hop2).mono ?_
        rintro e w'' ⟨⟨v, rfl, h0, _⟩, h2⟩
        have h3 := h0 hu0
        rw [hu1] at h3
        exact ⟨⟨v, by rw [hu0]; rfl, h3⟩, h2⟩
      clear hTn HUN HBI hu0 hu1
      go_upto_region 12 with fail
      go_region_held3 (fun w' => w'.cell? ⟨g, o, s⟩ = some (.int .u8 (op : Int))) (first | (simp [go_sem, hc0]; done) | exact kept_cell hc0 (below_step (Below.refl _ w4).drew hw5)) (first | (go_at_call 25; refine (hU _ (Below.refl _ w4).drew).mono ?_; rintro e w5 ⟨⟨v5, rfl, h5⟩, hw5⟩))
      have hb5 := below_step hb4 (below_step (Below.refl _ w4).drew hw5)
      obtain ⟨a5, cap5, rfl, hT5, _⟩ := own_tk h5 hTk.out.ok
      have hsm := Try.sameT_any _ _ _ _ _ _ _ _ _ hT5 (hTk.out.up hb5)
      have e1 : decide (ts = ts) = true := decide_eq_true rfl
      rw [e1] at hsm
      clear h5 hw5 hT5 e1 htn hU hlen hal2 hnt
      generalize ts.length = L at *
      go_wp2_with fail
      refine hsm.mono ?_
      rintro e w6 ⟨rfl, hw6⟩
      have hb6 := below_step hb5 hw6
      go_wp2
      go_ret
      exact ⟨rfl, hb6⟩
    · obtain ⟨hu0, hu1⟩ := HBI.out hS0
      have hS0' : ((S : Int) == 0) = false := by rw [beq_eq_false_iff_ne]; omega
      have hSc : S ≤ cap := by omega
      have hSn2 : S ≤ n := by omega
      have hsl := fun w' => Try.cut_to x len cap S hSc w'
      have hsl2 := fun w' => Try.cut_lr x len cap S n hSn2 hncap w'
      obtain ⟨y, hy⟩ : ∃ y, y = (if cap = S then x else x.add (S * 2)) := ⟨_, rfl⟩
      have hTS : ∀ w', TkSl w' (some x) len cap ts → TkSl w' (some x) S cap (ts.take S) := fun w' h => by
        have h := h.cut 0 S (Nat.zero_le _) (by omega)
        have e : (if cap = 0 then x else x.add (0 * 2)) = x := by split <;> simp [Addr.add]
        rw [e, Nat.sub_zero, Nat.sub_zero, List.drop_zero] at h
        exact h
      have hTn : ∀ w', TkSl w' (some x) len cap ts → TkSl w' (some y) (n - S) (cap - S) ((ts.drop S).take (n - S)) := fun w' h => by
        rw [hy]; exact h.cut S n hSn2 (by omega)
      rw [← hy] at hsl2
      have hU : ∀ w', Below w4.heap.size w4 w' → Calls Try.prog 27 #[.int .u8 (op : Int), .slice (some x) S cap, .slice (some y) (n - S) (cap - S)] w' fun e w'' => (∃ v, e = .returned (.tuple #[v, .int .i64 0]) ∧ w''.ownsRow w'.heap.size 50 2 v ts.length (encT ts)) ∧ Below w'.heap.size w' w'' := fun w' hb => by
        refine (Try.bin_any op (some x) (some y) S cap (n - S) (cap - S) (ts.take S) ((ts.drop S).take (n - S)) w' (hTS _ (hT4.up hb)) (hTn _ (hT4.up hb)) hop2).mono ?_
        rintro e w'' ⟨⟨v, rfl, h0, _⟩, h2⟩
        have h3 := h0 hu0
        rw [hu1] at h3
        exact ⟨⟨v, by rw [hu0]; rfl, h3⟩, h2⟩
      clear hTn hTS HUN HBI hu0 hu1 hy
      generalize n - S = nS at *
      generalize cap - S = cS at *
      go_upto_region 14 with fail
      go_region_held3 (fun w' => w'.cell? ⟨g, o, s⟩ = some (.int .u8 (op : Int))) (first | (simp [go_sem, hc0]; done) | exact kept_cell hc0 (below_step (Below.refl _ w4).drew hw5)) (first | (go_at_call 27; refine (hU _ (Below.refl _ w4).drew).mono ?_; rintro e w5 ⟨⟨v5, rfl, h5⟩, hw5⟩))
      have hb5 := below_step hb4 (below_step (Below.refl _ w4).drew hw5)
      obtain ⟨a5, cap5, rfl, hT5, _⟩ := own_tk h5 hTk.out.ok
      have hsm := Try.sameT_any _ _ _ _ _ _ _ _ _ hT5 (hTk.out.up hb5)
      have e1 : decide (ts = ts) = true := decide_eq_true rfl
      rw [e1] at hsm
      clear h5 hw5 hT5 e1 htn hU hlen hal2 hnt
      generalize ts.length = L at *
      go_wp2_with fail
      refine hsm.mono ?_
      rintro e w6 ⟨rfl, hw6⟩
      have hb6 := below_step hb5 hw6
      go_wp2
      go_ret
      exact ⟨rfl, hb6⟩
  · have h3 : lookE ts 3 = 0 := by rcases h13 with h | h; exact absurd h h1; exact h
    rw [h3] at hP
    clear h13 h3
    generalize lookE ts 1 = E1 at *
    have h1' : ((E1 : Int) != 0) = true := by simp; omega
    go_enter Try.func6, Try.ntmps6
    go_wp2_with fail
    refine ha.mono ?_
    rintro e w1 ⟨rfl, hw1'⟩
    go_wp2_with fail
    refine (hC _ (hT.up hw1')).mono ?_
    rintro e w2 ⟨rfl, hw2'⟩
    have hb2 := below_step hw1' hw2'
    go_wp2_with fail
    refine (hP _ (hT.up hb2)).mono ?_
    rintro e w3 ⟨rfl, hw3'⟩
    have hbH := below_step hb2 hw3'
    clear hw1' hw2' hw3' hC hP ha hb2
    have hTb := hTk.out.up hbH
    go_wp2_with fail
    refine (hB _ hTb).mono ?_
    rintro e w4 ⟨⟨v4, rfl, hr4, _⟩, hw4⟩
    have hO4 := hr4 rfl
    have hb4 := below_step hbH hw4
    clear hr4 hw4 hB hTb
    rw [hzl] at hO4
    obtain ⟨a4, cap4, rfl, hI4, _⟩ := ownI_sl hO4 Try.underlying25 Try.sizeInt
    have hix4 := fun w' => hI4.idx len m w' hmlen (Nat.le_refl _)
    have hc4 := hI4.cell m hmlen
    rw [hzf] at hc4
    clear hO4 hI4 hzf hzl
    have hT4 := hTk.out.up hb4
    obtain ⟨g, o, s, hia, hc0, hc1, _, _⟩ := hT4.at Try.underlying22 Try.sizeTok n hnlen
    have hidx := fun w' => hia len w' hnlen
    rw [htn] at hc0 hc1
    clear hia
    dsimp only at hc0 hc1
    by_cases hS0 : S = 0
    · subst hS0
      obtain ⟨hu0, hu1⟩ := HUN.out rfl
      have hsl := fun w' => Try.cut_to x len cap n hncap w'
      have hTn : ∀ w', TkSl w' (some x) len cap ts → TkSl w' (some x) n cap (ts.take n) := fun w' h => by
        have h := h.cut 0 n (Nat.zero_le _) (by omega)
        have e : (if cap = 0 then x else x.add (0 * 2)) = x := by split <;> simp [Addr.add]
        rw [e, Nat.sub_zero, Nat.sub_zero, List.drop_zero] at h
        exact h
      have hU : ∀ w', Below w4.heap.size w4 w' → Calls Try.prog 25 #[.int .u8 (op : Int), .slice (some x) n cap] w' fun e w'' => (∃ v, e = .returned (.tuple #[v, .int .i64 0]) ∧ w''.ownsRow w'.heap.size 50 2 v ts.length (encT ts)) ∧ Below w'.heap.size w' w'' := fun w' hb => by
        refine (Try.un_any op (some x) n cap (ts.take n) w' (hTn _ (hT4.up hb)) hop2).mono ?_
        rintro e w'' ⟨⟨v, rfl, h0, _⟩, h2⟩
        have h3 := h0 hu0
        rw [hu1] at h3
        exact ⟨⟨v, by rw [hu0]; rfl, h3⟩, h2⟩
      clear hTn HUN HBI hu0 hu1
      go_upto_region 12 with fail
      go_region_held3 (fun w' => w'.cell? ⟨g, o, s⟩ = some (.int .u8 (op : Int))) (first | (simp [go_sem, hc0]; done) | exact kept_cell hc0 (below_step (Below.refl _ w4).drew hw5)) (first | (go_at_call 25; refine (hU _ (Below.refl _ w4).drew).mono ?_; rintro e w5 ⟨⟨v5, rfl, h5⟩, hw5⟩))
      have hb5 := below_step hb4 (below_step (Below.refl _ w4).drew hw5)
      obtain ⟨a5, cap5, rfl, hT5, _⟩ := own_tk h5 hTk.out.ok
      have hsm := Try.sameT_any _ _ _ _ _ _ _ _ _ hT5 (hTk.out.up hb5)
      have e1 : decide (ts = ts) = true := decide_eq_true rfl
      rw [e1] at hsm
      clear h5 hw5 hT5 e1 htn hU hlen hal2 hnt
      generalize ts.length = L at *
      go_wp2_with fail
      refine hsm.mono ?_
      rintro e w6 ⟨rfl, hw6⟩
      have hb6 := below_step hb5 hw6
      go_wp2
      go_ret
      exact ⟨rfl, hb6⟩
    · obtain ⟨hu0, hu1⟩ := HBI.out hS0
      have hS0' : ((S : Int) == 0) = false := by rw [beq_eq_false_iff_ne]; omega
      have hSc : S ≤ cap := by omega
      have hSn2 : S ≤ n := by omega
      have hsl := fun w' => Try.cut_to x len cap S hSc w'
      have hsl2 := fun w' => Try.cut_lr x len cap S n hSn2 hncap w'
      obtain ⟨y, hy⟩ : ∃ y, y = (if cap = S then x else x.add (S * 2)) := ⟨_, rfl⟩
      have hTS : ∀ w', TkSl w' (some x) len cap ts → TkSl w' (some x) S cap (ts.take S) := fun w' h => by
        have h := h.cut 0 S (Nat.zero_le _) (by omega)
        have e : (if cap = 0 then x else x.add (0 * 2)) = x := by split <;> simp [Addr.add]
        rw [e, Nat.sub_zero, Nat.sub_zero, List.drop_zero] at h
        exact h
      have hTn : ∀ w', TkSl w' (some x) len cap ts → TkSl w' (some y) (n - S) (cap - S) ((ts.drop S).take (n - S)) := fun w' h => by
        rw [hy]; exact h.cut S n hSn2 (by omega)
      rw [← hy] at hsl2
      have hU : ∀ w', Below w4.heap.size w4 w' → Calls Try.prog 27 #[.int .u8 (op : Int), .slice (some x) S cap, .slice (some y) (n - S) (cap - S)] w' fun e w'' => (∃ v, e = .returned (.tuple #[v, .int .i64 0]) ∧ w''.ownsRow w'.heap.size 50 2 v ts.length (encT ts)) ∧ Below w'.heap.size w' w'' := fun w' hb => by
        refine (Try.bin_any op (some x) (some y) S cap (n - S) (cap - S) (ts.take S) ((ts.drop S).take (n - S)) w' (hTS _ (hT4.up hb)) (hTn _ (hT4.up hb)) hop2).mono ?_
        rintro e w'' ⟨⟨v, rfl, h0, _⟩, h2⟩
        have h3 := h0 hu0
        rw [hu1] at h3
        exact ⟨⟨v, by rw [hu0]; rfl, h3⟩, h2⟩
      clear hTn hTS HUN HBI hu0 hu1 hy
      generalize n - S = nS at *
      generalize cap - S = cS at *
      go_upto_region 14 with fail
      go_region_held3 (fun w' => w'.cell? ⟨g, o, s⟩ = some (.int .u8 (op : Int))) (first | (simp [go_sem, hc0]; done) | exact kept_cell hc0 (below_step (Below.refl _ w4).drew hw5)) (first | (go_at_call 27; refine (hU _ (Below.refl _ w4).drew).mono ?_; rintro e w5 ⟨⟨v5, rfl, h5⟩, hw5⟩))
      have hb5 := below_step hb4 (below_step (Below.refl _ w4).drew hw5)
      obtain ⟨a5, cap5, rfl, hT5, _⟩ := own_tk h5 hTk.out.ok
      have hsm := Try.sameT_any _ _ _ _ _ _ _ _ _ hT5 (hTk.out.up hb5)
      have e1 : decide (ts = ts) = true := decide_eq_true rfl
      rw [e1] at hsm
      clear h5 hw5 hT5 e1 htn hU hlen hal2 hnt
      generalize ts.length = L at *
      go_wp2_with fail
      refine hsm.mono ?_
      rintro e w6 ⟨rfl, hw6⟩
      have hb6 := below_step hb5 hw6
      go_wp2
      go_ret
      exact ⟨rfl, hb6⟩
/-- The law, whatever the tokens. -/
theorem Try.termUp_any (a : Option Addr) (len cap : Nat) (ts : List Tk) (w : World) (hT : TkSl w a len cap ts) :
    Calls Try.prog 6 #[.slice a len cap] w fun e w' => e = .returned (.bool true) ∧ Below w.heap.size w w' := by
  by_cases hl : 150 < len
  · exact Try.termUp_long a len cap w hl
  · by_cases h13 : lookE ts 1 = 0 ∨ lookE ts 3 = 0
    · by_cases h2 : len < 2
      · exact Try.termUp_short a len cap ts w hT h2 h13
      · obtain ⟨x, rfl⟩ := hT.some_of (by omega)
        exact Try.termUp_go x len (len - 1) cap ts w hT (by omega) (by show _ = _; omega) (by omega) h13
    · exact Try.termUp_none a len cap ts w hT (by omega) (fun e => h13 (Or.inl e)) (fun e => h13 (Or.inr e))
end Go.Proofs.Ytgnhccjcokhmhaa
