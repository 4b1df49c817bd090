/- Package table: the closures of Keep and Find. -/
import Derived.Test.YtbfhbpibpmgblaaWTm6
import Derived.Test.YtbfhbpibpmgblaaKtM
namespace Go.Proofs.Ytbfhbpibpmgblaa
open Go.RowKit Go.Maps

/-- A table, and the variable that leads to it, which a closure holds. -/
def TabB (t bx : Nat) (w : World) (G : Nat → Prop) (items : List It) : Prop :=
  ∃ F, TabI w F t items ∧ w.heap[bx]? = some (.cells #[tbV t] 23 (0, 0)) ∧ ¬ F bx ∧ ∀ k, G k ↔ (F k ∨ k = bx)
theorem TabB.lt {t bx : Nat} {w : World} {G : Nat → Prop} {items : List It} (h : TabB t bx w G items) : (∀ k, G k → k < w.heap.size) ∧ items.length ≤ 4096 := by
  obtain ⟨F, h1, h2, _, h4⟩ := h
  refine ⟨fun k hk => ?_, h1.few⟩
  rcases (h4 k).1 hk with hk | rfl
  · exact h1.lt k hk
  · exact (Array.getElem?_eq_some_iff.1 h2).1
theorem TabB.far {t bx : Nat} {w w' : World} {G : Nat → Prop} {items : List It} (h : TabB t bx w G items) (hb : ∀ k, G k → w'.heap[k]? = w.heap[k]?) : TabB t bx w' G items := by
  obtain ⟨F, h1, h2, h3, h4⟩ := h
  exact ⟨F, h1.far (fun k hk => hb k ((h4 k).2 (Or.inl hk))), (hb bx ((h4 bx).2 (Or.inr rfl))).trans h2, h3, h4⟩
/-- A call that changed the table. -/
theorem TabB.fr {t bx : Nat} {w w' : World} {F F' G : Nat → Prop} {items : List It} (h2 : w.heap[bx]? = some (.cells #[tbV t] 23 (0, 0))) (h3 : ¬ F bx) (h4 : ∀ k, G k ↔ (F k ∨ k = bx)) (hT : TabI w' F' t items) (fr : Fr w w' F F') : ∃ G', TabB t bx w' G' items ∧ Fr w w' G G' := by
  have hl := (Array.getElem?_eq_some_iff.1 h2).1
  refine ⟨fun k => F' k ∨ k = bx, ⟨F', hT, (fr.keep bx hl h3).trans h2, fr.out h3 hl, fun k => Iff.rfl⟩, ⟨fr.os, fr.tape, fr.output, fr.size, fun k hk hg => fr.keep k hk (fun hf => hg ((h4 k).2 (Or.inl hf))), fun k hk => ?_⟩⟩
  rcases hk with hk | hk
  · rcases fr.foot k hk with h | h
    · exact Or.inl ((h4 k).2 (Or.inl h))
    · exact Or.inr h
  · exact Or.inl ((h4 k).2 (Or.inr hk))
/-- What is asked of a finder. -/
def FindC (S : World → (Nat → Prop) → List It → Prop) (fd : Fnd) (fid bx : Nat) : Prop := ∀ (w : World) (G : Nat → Prop) (items : List It) (x : It), ItOk x → S w G items → Calls Try.prog fid #[itV x, .pointer (some ⟨bx, 0, none⟩)] w fun e w' =>
  (∃ r, fd items x = some r ∧ e = .returned (.tuple #[.int .i64 (r.2 : Int), .bool true]) ∧ ∃ G', S w' G' r.1 ∧ Fr w w' G G') ∨ (fd items x = none ∧ e = .returned (.tuple #[.int .i64 0, .bool false]) ∧ ∃ G', S w' G' items ∧ Fr w w' G G')
set_option maxRecDepth 100000 in
set_option maxHeartbeats 2000000 in
theorem Try.tfind1_any (t bx : Nat) : FindC (TabB t bx) fiF 26 bx := by
  intro w G items x hx hS
  obtain ⟨F, h1, h2, h3, h4⟩ := hS
  obtain ⟨a, cap, mb, hr, _⟩ := h1.read
  have hb := below_new w (itO x)
  have hr1 := hr.up hb
  have c2 := hr1.c2
  have cb : (w.alloc (itO x)).cell? ⟨bx, 0, none⟩ = some (.pointer (some ⟨t, 0, none⟩)) := kept_cell (cell_row h2 0) hb
  have hlk := fun m => (show NumOf ((w.alloc (itO x)).drewN m) mb items.length (posI items) from hr1.num).look hx
  have HFIN : Hid (∀ w', Below (w.alloc (itO x)).heap.size (w.alloc (itO x)) w' → ∃ G', TabB t bx w' G' items ∧ Fr w w' G G') := fun w' hw => TabB.fr h2 h3 h4 (h1.up (below_step hb hw)) (Fr.same (below_step hb hw))
  clear h1 h2 h3 h4 hr hr1 hb
  cases hp : posI items x with
  | some j =>
    have HP : Hid (fiF items x = some (items, j)) := by
      show _ = _
      unfold fiF
      rw [show items.findIdx? (· = x) = some j from hp]
    rw [hp] at hlk
    clear hp
    obtain ⟨op, p, xa, xb⟩ := x
    unfold itV at hlk
    unfold itO at c2 cb HFIN hlk
    dsimp only at c2 cb HFIN hlk
    unfold itV
    dsimp only
    go_enter Try.func26, Try.ntmps26
    go_upto_region 15 with fail
    go_quiet (fail)
    go_wp2
    go_ret2
    exact Or.inl ⟨_, HP.out, rfl, HFIN.out _ (below_drewN (Below.refl _ _) _)⟩
  | none =>
    have HP : Hid (fiF items x = none) := by
      show _ = _
      unfold fiF
      rw [show items.findIdx? (· = x) = none from hp]
    rw [hp] at hlk
    clear hp
    obtain ⟨op, p, xa, xb⟩ := x
    unfold itV at hlk
    unfold itO at c2 cb HFIN hlk
    dsimp only [Option.getD, Option.isSome] at c2 cb HFIN hlk
    unfold itV
    dsimp only
    go_enter Try.func26, Try.ntmps26
    go_upto_region 15 with fail
    go_quiet (fail)
    go_wp2
    go_ret2
    exact Or.inr ⟨HP.out, rfl, HFIN.out _ (below_drewN (Below.refl _ _) _)⟩
set_option maxRecDepth 100000 in
set_option maxHeartbeats 4000000 in
theorem Try.tkeep1_any (t bx : Nat) : FindC (TabB t bx) kpF 29 bx := by
  intro w G items x hx hS
  obtain ⟨F, h1, h2, h3, h4⟩ := hS
  obtain ⟨a, cap, mb, hr, _⟩ := h1.read
  have hb := below_new w (itO x)
  have hr1 := hr.up hb
  have c1 := hr1.c1
  have c2 := hr1.c2
  have cb : (w.alloc (itO x)).cell? ⟨bx, 0, none⟩ = some (.pointer (some ⟨t, 0, none⟩)) := kept_cell (cell_row h2 0) hb
  have hlk := fun m => (show NumOf ((w.alloc (itO x)).drewN m) mb items.length (posI items) from hr1.num).look hx
  have HFIN : Hid (∀ w', Below (w.alloc (itO x)).heap.size (w.alloc (itO x)) w' → ∃ G', TabB t bx w' G' items ∧ Fr w w' G G') := fun w' hw => TabB.fr h2 h3 h4 (h1.up (below_step hb hw)) (Fr.same (below_step hb hw))
  have HFIN2 : Hid (∀ (w1 w' : World) (F' : Nat → Prop), Below (w.alloc (itO x)).heap.size (w.alloc (itO x)) w1 → TabI w' F' t (items ++ [x]) → Fr w1 w' F F' → ∃ G', TabB t bx w' G' (items ++ [x]) ∧ Fr w w' G G') := fun w1 w' F' hw hT fr => by
    have hw1 := below_step hb hw
    refine TabB.fr h2 h3 h4 hT ⟨fr.os.trans hw1.os, fr.tape.trans hw1.tape, fr.output.trans hw1.output, Nat.le_trans hw1.size fr.size, fun k hk hf => (fr.keep k (Nat.lt_of_lt_of_le hk hw1.size) hf).trans (hw1.block k hk), fun k hk => ?_⟩
    rcases fr.foot k hk with h | h
    · exact Or.inl h
    · exact Or.inr (Nat.le_trans hw1.size h)
  have HI : Hid (∀ w', Below (w.alloc (itO x)).heap.size (w.alloc (itO x)) w' → TabI w' F t items) := fun w' hw => h1.up (below_step hb hw)
  have HX : Hid _ := hx
  clear h1 h2 h3 h4 hr hr1 hb hx
  cases hp : posI items x with
  | some j =>
    have HP : Hid (kpF items x = some (items, j)) := by
      show _ = _
      unfold kpF
      rw [show items.findIdx? (· = x) = some j from hp]
    rw [hp] at hlk
    clear hp HFIN2
    obtain ⟨op, p, xa, xb⟩ := x
    unfold itV at hlk
    unfold itO at c1 c2 cb HFIN hlk
    dsimp only [Option.getD, Option.isSome] at c1 c2 cb HFIN hlk
    unfold itV
    dsimp only
    go_enter Try.func29, Try.ntmps29
    go_upto_region 15 with fail
    go_quiet (fail)
    go_wp2
    go_ret2
    exact Or.inl ⟨_, HP.out, rfl, HFIN.out _ (below_drewN (Below.refl _ _) _)⟩
  | none =>
    rw [hp] at hlk
    by_cases hl : items.length = 4096
    · have HP : Hid (kpF items x = none) := by
        show _ = _
        unfold kpF
        rw [show items.findIdx? (· = x) = none from hp]
        simp only
        rw [if_pos hl]
      have hl' : ((items.length : Int) == 4096) = true := by rw [beq_iff_eq]; omega
      clear hp hl
      obtain ⟨op, p, xa, xb⟩ := x
      unfold itV at hlk
      unfold itO at c1 c2 cb HFIN hlk
      dsimp only [Option.getD, Option.isSome] at c1 c2 cb HFIN hlk
      unfold itV
      dsimp only
      go_enter Try.func29, Try.ntmps29
      go_upto_region 15 with fail
      go_quiet (fail)
      go_wp2
      go_ret2
      exact Or.inr ⟨HP.out, rfl, HFIN.out _ (below_drewN (Below.refl _ _) _)⟩
    · have HP : Hid (kpF items x = some (items ++ [x], items.length)) := by
        show _ = _
        unfold kpF
        rw [show items.findIdx? (· = x) = none from hp]
        simp only
        rw [if_neg hl]
      have hadd : ∀ w', Below (w.alloc (itO x)).heap.size (w.alloc (itO x)) w' → _ := fun w' hw => Try.tadd_any (HI.out w' hw) x HX.out (posI_none.1 hp) (by have := (HI.out w' hw).few; omega)
      have hl' : ((items.length : Int) == 4096) = false := by rw [beq_eq_false_iff_ne]; omega
      clear hp hl HFIN
      obtain ⟨op, p, xa, xb⟩ := x
      unfold itV at hlk hadd
      unfold itO at c1 c2 cb HFIN2 hlk hadd
      dsimp only [Option.getD, Option.isSome] at c1 c2 cb HFIN2 hlk hadd
      unfold itV
      dsimp only
      go_enter Try.func29, Try.ntmps29
      go_upto_region 15 with fail
      go_quiet (fail)
      have hw1 := below_drewN (Below.refl (w.alloc (.cells #[.int .u8 (op : Int), .int .u8 (p : Int), .int .i64 xa, .int .i64 xb] 49)).heap.size (w.alloc (.cells #[.int .u8 (op : Int), .int .u8 (p : Int), .int .i64 xa, .int .i64 xb] 49))) nq
      have hadd1 := hadd _ hw1
      clear hadd
      go_wp2_with fail
      refine hadd1.mono ?_
      rintro e w2 ⟨rfl, F2, hT2, fr2⟩
      have HG : Hid _ := HFIN2.out _ _ _ hw1 hT2 fr2
      clear hadd1 hT2 fr2 hw1
      go_wp2
      go_ret2
      exact Or.inl ⟨_, HP.out, rfl, HG.out⟩
end Go.Proofs.Ytbfhbpibpmgblaa
