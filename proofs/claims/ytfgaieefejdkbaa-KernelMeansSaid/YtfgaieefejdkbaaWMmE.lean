/- Package mean: how work ends; what the words of paths mean by rows of words. -/
import Derived.Test.YtfgaieefejdkbaaWMmB
import Derived.Test.YtfgaieefejdkbaaWMm8
namespace Go.Proofs.Ytfgaieefejdkbaa
open Go.RowKit Go.Maps

theorem StkAt.only {w w' : World} {b B G : Nat} {st : List Mp} (h : StkAt w b B st) (ho : Only G w w') : StkAt w' b B st := h.keep fun k c t z hc ht _ _ =>
  ho.block k (Array.getElem?_eq_some_iff.1 hc).1 (Or.inr fun c' z' e => by
    rw [hc] at e
    injection e with e
    injection e with _ e _
    subst e
    rcases ht with ht | ht <;> exact absurd ht (by decide))
theorem StkAt.grow {w w' : World} {b B : Nat} {st : List Mp} (h : StkAt w b B st) (hb : Below w.heap.size w w') : StkAt w' b B st := h.up hb
section
variable {w w6 : World} {n b lo g : Nat} {X : Sk} {rest : List (Sk × Mp)}
theorem fin_val {bs : List Bool} (hS : StkAt w6 b w.heap.size ((rest.map (·.2)).reverse)) (hP : Parts w6 n b lo rest) (hr : w6.heap[w.heap.size + 1]? = some (.cells #[.slice none 0 0, .slice none 0 0] 75 (0, 0))) (hb : Below b w w6) (hV : ValAt w6 g bs) (hl : bs.length = n + 1) (hX : X.1 = false) (hv : ∀ i, i ≤ n → (bs.getD i false = true ↔ X.2.1 i)) (hlo : lo ≤ w6.heap.size) (hgb : b ≤ g) :
    WorkR n b w X rest (.returned (.agg #[.slice (some ⟨g, 0, none⟩) (n + 1) (n + 1), .slice none 0 0])) ((w6.setCell ⟨w.heap.size + 1, 0, none⟩ (.slice (some ⟨g, 0, none⟩) (n + 1) (n + 1))).setCell ⟨w.heap.size + 1, 1, none⟩ (.slice none 0 0)) := by
  have q := (grown_set2 w6 (w.heap.size + 1) (.slice (some ⟨g, 0, none⟩) (n + 1) (n + 1)) (.slice none 0 0)).size
  have hbB := hS.lt
  exact ⟨((some ⟨g, 0, none⟩, n + 1, n + 1), (none, 0, 0)), rfl, hS.fin (Below.refl _ _) (grown_set2 ..) (by omega), ⟨lo, part_val hX hV hl hv (Below.refl _ _) (grown_set2 ..) hr hgb, by omega, hP.keep (keep_fin (Below.refl _ _) (grown_set2 ..) hr)⟩, work_below hb (by omega) _ _⟩
theorem fin_end {rs : Nat → List Nat} (hS : StkAt w6 b w.heap.size ((rest.map (·.2)).reverse)) (hP : Parts w6 n b lo rest) (hr : w6.heap[w.heap.size + 1]? = some (.cells #[.slice none 0 0, .slice none 0 0] 75 (0, 0))) (hb : Below b w w6) (hE : EndAt w6 g (n + 1) rs) (hX : X.1 = true) (hv : ∀ i, i ≤ n → ∀ k, hasW (rs i) k = true ↔ X.2.2 i k) (hlo : lo ≤ g) :
    WorkR n b w X rest (.returned (.agg #[.slice none 0 0, .slice (some ⟨g, 0, none⟩) (n + 1) (n + 1)])) ((w6.setCell ⟨w.heap.size + 1, 0, none⟩ (.slice none 0 0)).setCell ⟨w.heap.size + 1, 1, none⟩ (.slice (some ⟨g, 0, none⟩) (n + 1) (n + 1))) := by
  have q := (grown_set2 w6 (w.heap.size + 1) (.slice none 0 0) (.slice (some ⟨g, 0, none⟩) (n + 1) (n + 1))).size
  have hbB := hS.lt
  have hlt := hE.lt
  exact ⟨((none, 0, 0), (some ⟨g, 0, none⟩, n + 1, n + 1)), rfl, hS.fin (Below.refl _ _) (grown_set2 ..) (by omega), ⟨lo, part_end hX hE hv hlo (Below.refl _ _) (grown_set2 ..) hr, by omega, hP.keep (keep_fin (Below.refl _ _) (grown_set2 ..) hr)⟩, work_below hb (by omega) _ _⟩
end
/-! ### what the rows mean -/
section
variable {n : Nat} {t : List Nat} {x y : Sk} {rs us : Nat → List Nat} {av : List Bool}
theorem steps_congr {R S : Nat → Nat → Prop} (hI : ∀ i k, i ≤ n → S i k → i ≤ k ∧ k ≤ n) (hRS : ∀ i, i ≤ n → ∀ k, R i k ↔ S i k) : ∀ (m i k : Nat), i ≤ n → (stepsP R m i k ↔ stepsP S m i k)
  | 0, _, _, _ => Iff.rfl
  | m + 1, i, k, hi => by
    constructor
    · rintro ⟨j, h1, h2⟩
      have h1' := (hRS i hi j).1 h1
      exact ⟨j, h1', (steps_congr hI hRS m j k (hI i j hi h1').2).1 h2⟩
    · rintro ⟨j, h1, h2⟩
      exact ⟨j, (hRS i hi j).2 h1, (steps_congr hI hRS m j k (hI i j hi h1).2).2 h2⟩
theorem inR_of (hI : InW n x) (hv : ∀ i, i ≤ n → ∀ k, hasW (rs i) k = true ↔ x.2.2 i k) : InR rs (n + 1) := fun i hi k hk => by
  have := hI i k (by omega) ((hv i (by omega) k).1 hk)
  omega
theorem sem_step (hl : t.length = n) (hv : ∀ i, i ≤ n → (av.getD i false = true ↔ x.2.1 i)) (hd : ∀ i, i < n + 1 → ∀ j, hasW (rs i) j = stpF av (n + 1) i j) : ∀ i, i ≤ n → ∀ k, hasW (rs i) k = true ↔ (skT t (19, 0) [x]).2.2 i k := fun i hi k => by
  rw [hd i (by omega) k]
  show _ ↔ unY t.length 19 x.2 i k
  rw [hl]
  have := hv i hi
  unfold stpF
  generalize av.getD i false = q at this ⊢
  rw [Bool.and_eq_true, Bool.and_eq_true, this]
  simp [unY]
  constructor
  · rintro ⟨⟨h1, h2⟩, h3⟩; exact ⟨h3, h2, h1⟩
  · rintro ⟨h3, h2, h1⟩; exact ⟨⟨h1, h2⟩, h3⟩
theorem sem_test (hv : ∀ i, i ≤ n → (av.getD i false = true ↔ x.2.1 i)) (hd : ∀ i, i < n + 1 → ∀ j, hasW (rs i) j = tstF av (n + 1) i j) : ∀ i, i ≤ n → ∀ k, hasW (rs i) k = true ↔ (skT t (20, 0) [x]).2.2 i k := fun i hi k => by
  rw [hd i (by omega) k]
  show _ ↔ unY t.length 20 x.2 i k
  have := hv i hi
  unfold tstF
  generalize av.getD i false = q at this ⊢
  rw [Bool.and_eq_true, this]
  simp [unY]
  constructor
  · rintro ⟨h1, h2⟩; exact ⟨h2, h1⟩
  · rintro ⟨h1, h2⟩; exact ⟨h2, h1⟩
theorem sem_star (hI : InW n x) (hv : ∀ i, i ≤ n → ∀ k, hasW (rs i) k = true ↔ x.2.2 i k) (hd : ∀ i, i < n + 1 → ∀ k, hasW (us i) k = true ↔ ∃ m, stepsP (Rl rs) m i k) : ∀ i, i ≤ n → ∀ k, hasW (us i) k = true ↔ (skT t (23, 0) [x]).2.2 i k := fun i hi k => by
  rw [hd i (by omega) k]
  show _ ↔ unY t.length 23 x.2 i k
  simp only [unY, if_neg (show ¬ (23 = 19) by decide), if_neg (show ¬ (23 = 20) by decide)]
  constructor
  · rintro ⟨m, h⟩; exact ⟨m, (steps_congr (R := Rl rs) hI hv m i k hi).1 h⟩
  · rintro ⟨m, h⟩; exact ⟨m, (steps_congr (R := Rl rs) hI hv m i k hi).2 h⟩
theorem sem_dia (hI : InW n x) (hv : ∀ i, i ≤ n → ∀ k, hasW (rs i) k = true ↔ x.2.2 i k) (hv2 : ∀ i, i ≤ n → (av.getD i false = true ↔ y.2.1 i)) : ∀ i, i ≤ n → (someP rs av i (n + 1) ↔ (skT t (17, 0) [x, y]).2.1 i) := fun i hi => by
  show _ ↔ binV t.length 17 x.2 y.2 i
  simp [binV, someP]
  constructor
  · rintro ⟨m, h1, h2, h3⟩; exact ⟨m, (hv i hi m).1 h2, (hv2 m (by omega)).1 h3⟩
  · rintro ⟨m, h1, h2⟩
    have := hI i m hi h1
    exact ⟨m, by omega, (hv i hi m).2 h1, (hv2 m this.2).2 h2⟩
theorem sem_box (hI : InW n x) (hv : ∀ i, i ≤ n → ∀ k, hasW (rs i) k = true ↔ x.2.2 i k) (hv2 : ∀ i, i ≤ n → (av.getD i false = true ↔ y.2.1 i)) : ∀ i, i ≤ n → (everyP rs av i (n + 1) ↔ (skT t (18, 0) [x, y]).2.1 i) := fun i hi => by
  show _ ↔ binV t.length 18 x.2 y.2 i
  simp [binV, everyP]
  constructor
  · intro h k hk
    have := hI i k hi hk
    exact (hv2 k this.2).1 (h k (by omega) ((hv i hi k).2 hk))
  · intro h m hm hk; exact (hv2 m (by omega)).2 (h m ((hv i hi m).1 hk))
theorem sem_plus {W : Nat} (hI : InW n y) (hv : ∀ i, i ≤ n → ∀ k, hasW (rs i) k = true ↔ x.2.2 i k) (hv2 : ∀ i, i ≤ n → ∀ k, hasW (us i) k = true ↔ y.2.2 i k) (ho : ∀ i, i < n + 1 → OkW W (rs i)) (ho2 : ∀ i, i < n + 1 → OkW W (us i)) : ∀ i, i ≤ n → ∀ k, hasW (plusTo rs us (n + 1) i) k = true ↔ (skT t (21, 0) [x, y]).2.2 i k := fun i hi k => by
  show _ ↔ binY 21 x.2 y.2 i k
  unfold plusTo
  rw [if_pos (by omega), hasW_join (ho i (by omega)) (ho2 i (by omega)) i k (fun j hj => (hI i j hi ((hv2 i hi j).1 hj)).1), Bool.or_eq_true, hv i hi, hv2 i hi]
  simp [binY]
theorem sem_seq (hI : InW n x) (hv : ∀ i, i ≤ n → ∀ k, hasW (rs i) k = true ↔ x.2.2 i k) (hv2 : ∀ i, i ≤ n → ∀ k, hasW (us i) k = true ↔ y.2.2 i k) {xs : Nat → List Nat} (hd : ∀ i, i < n + 1 → SeqTo rs us i (n + 1) (xs i)) : ∀ i, i ≤ n → ∀ k, hasW (xs i) k = true ↔ (skT t (22, 0) [x, y]).2.2 i k := fun i hi k => by
  rw [hd i (by omega) k]
  show _ ↔ binY 22 x.2 y.2 i k
  simp [binY]
  constructor
  · rintro ⟨m, h1, h2, h3⟩; exact ⟨m, (hv i hi m).1 h2, (hv2 m (by omega) k).1 h3⟩
  · rintro ⟨m, h1, h2⟩
    have := hI i m hi h1
    exact ⟨m, by omega, (hv i hi m).2 h1, (hv2 m this.2 k).2 h2⟩
theorem sem_two {op : Nat} (hop : 11 ≤ op ∧ op ≤ 16) (hl : t.length = n) (i : Nat) : binV n op (x.2.1, fun _ _ => False) (y.2.1, fun _ _ => False) i ↔ (skT t (op, 0) [x, y]).2.1 i := by
  show _ ↔ binV t.length op x.2 y.2 i
  rw [hl]
  obtain rfl | rfl | rfl | rfl | rfl | rfl : op = 11 ∨ op = 12 ∨ op = 13 ∨ op = 14 ∨ op = 15 ∨ op = 16 := by omega
  all_goals simp [binV]
end
end Go.Proofs.Ytfgaieefejdkbaa
