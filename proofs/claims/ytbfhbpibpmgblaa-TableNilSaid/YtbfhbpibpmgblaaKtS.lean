/- Plain: what an item is made of: by marks, and by going down. -/
import Derived.Test.YtbfhbpibpmgblaaKtM
namespace Go.Proofs.Ytbfhbpibpmgblaa

/-- The numbers of an item, of what it takes, and so on. -/
def belowF (items : List It) : Nat → Int → List Nat
  | 0, _ => []
  | f + 1, i => if i < 0 then [] else match items[i.toNat]? with
    | none => []
    | some x => i.toNat :: (belowF items f x.a ++ belowF items f x.b)
def belowL (items : List It) (n : Nat) : List Int := ((List.range (n + 1)).filter fun j => decide (j ∈ belowF items (n + 1) (n : Int))).map fun j : Nat => (j : Int)
inductive Rch (items : List It) (n : Nat) : Nat → Prop where
  | top : Rch items n n
  | a {y x : Nat} {it : It} : Rch items n y → items[y]? = some it → it.a = (x : Int) → Rch items n x
  | b {y x : Nat} {it : It} : Rch items n y → items[y]? = some it → it.b = (x : Int) → Rch items n x
theorem Rch.le {items : List It} (hl : Low items) {n x : Nat} (h : Rch items n x) : x ≤ n := by
  induction h with
  | top => exact Nat.le_refl _
  | a _ h e ih => have := (hl _ _ h).1; omega
  | b _ h e ih => have := (hl _ _ h).2; omega
theorem belowF_sound {items : List It} {n : Nat} : ∀ (f : Nat) (y : Nat), Rch items n y → ∀ x, x ∈ belowF items f (y : Int) → Rch items n x
  | 0, _, _, x, h => by simp [belowF] at h
  | f + 1, y, hy, x, h => by
    unfold belowF at h
    rw [if_neg (by omega), Int.toNat_natCast] at h
    cases hi : items[y]? with
    | none => rw [hi] at h; simp at h
    | some it =>
      rw [hi] at h
      simp only [List.mem_cons, List.mem_append] at h
      rcases h with rfl | h | h
      · exact hy
      · by_cases ha : it.a < 0
        · cases f with
          | zero => simp [belowF] at h
          | succ f => unfold belowF at h; rw [if_pos ha] at h; simp at h
        · obtain ⟨z, hz⟩ := Int.eq_ofNat_of_zero_le (show 0 ≤ it.a by omega)
          rw [hz] at h
          exact belowF_sound f z (.a hy hi hz) x h
      · by_cases hb : it.b < 0
        · cases f with
          | zero => simp [belowF] at h
          | succ f => unfold belowF at h; rw [if_pos hb] at h; simp at h
        · obtain ⟨z, hz⟩ := Int.eq_ofNat_of_zero_le (show 0 ≤ it.b by omega)
          rw [hz] at h
          exact belowF_sound f z (.b hy hi hz) x h
/-- With fuel enough, what is met is gone down from. -/
theorem belowF_closed {items : List It} (hl : Low items) : ∀ (f : Nat) (y : Nat), y < f → y < items.length → y ∈ belowF items f (y : Int) ∧ ∀ z, z ∈ belowF items f (y : Int) → ∀ it, items[z]? = some it → (∀ x : Nat, it.a = (x : Int) → x ∈ belowF items f (y : Int)) ∧ (∀ x : Nat, it.b = (x : Int) → x ∈ belowF items f (y : Int))
  | 0, _, h, _ => by omega
  | f + 1, y, hf, hy => by
    have e : belowF items (f + 1) (y : Int) = y :: (belowF items f items[y].a ++ belowF items f items[y].b) := by
      rw [belowF, if_neg (by omega), Int.toNat_natCast, List.getElem?_eq_getElem hy]
    have hlow := hl y _ (List.getElem?_eq_getElem hy)
    have sub : ∀ i : Int, i < (y : Int) → ∀ z, z ∈ belowF items f i → ∀ it, items[z]? = some it → (∀ x : Nat, it.a = (x : Int) → x ∈ belowF items f i) ∧ (∀ x : Nat, it.b = (x : Int) → x ∈ belowF items f i) := fun i hi z hz it hit => by
      by_cases h0 : i < 0
      · cases f with
        | zero => simp [belowF] at hz
        | succ f => unfold belowF at hz; rw [if_pos h0] at hz; simp at hz
      · obtain ⟨q, rfl⟩ := Int.eq_ofNat_of_zero_le (show 0 ≤ i by omega)
        exact (belowF_closed hl f q (by omega) (by omega)).2 z hz it hit
    have top : ∀ i : Int, i < (y : Int) → ∀ x : Nat, i = (x : Int) → x ∈ belowF items f i := fun i hi x hx => by
      subst hx
      exact (belowF_closed hl f x (by omega) (by omega)).1
    refine ⟨by rw [e]; simp, fun z hz it hit => ?_⟩
    rw [e] at hz ⊢
    simp only [List.mem_cons, List.mem_append] at hz ⊢
    rcases hz with rfl | hz | hz
    · rw [List.getElem?_eq_getElem hy] at hit
      injection hit with hit
      subst hit
      exact ⟨fun x hx => Or.inr (Or.inl (top _ hlow.1 x hx)), fun x hx => Or.inr (Or.inr (top _ hlow.2 x hx))⟩
    · have := sub _ hlow.1 z hz it hit
      exact ⟨fun x hx => Or.inr (Or.inl (this.1 x hx)), fun x hx => Or.inr (Or.inl (this.2 x hx))⟩
    · have := sub _ hlow.2 z hz it hit
      exact ⟨fun x hx => Or.inr (Or.inr (this.1 x hx)), fun x hx => Or.inr (Or.inr (this.2 x hx))⟩
theorem belowF_iff {items : List It} (hl : Low items) {n : Nat} (hn : n < items.length) (x : Nat) : x ∈ belowF items (n + 1) (n : Int) ↔ Rch items n x := by
  obtain ⟨h1, h2⟩ := belowF_closed hl (n + 1) n (by omega) hn
  constructor
  · exact belowF_sound (n + 1) n .top x
  · intro h
    induction h with
    | top => exact h1
    | a _ hi e ih => exact (h2 _ ih _ hi).1 _ e
    | b _ hi e ih => exact (h2 _ ih _ hi).2 _ e
/-! ### marks -/
def mark1 (B : List Bool) (x : Int) : List Bool := if x = -1 then B else B.set x.toNat true
theorem mark1_len (B : List Bool) (x : Int) : (mark1 B x).length = B.length := by unfold mark1; split <;> simp
theorem mark1_get {B : List Bool} {x : Int} (hx : -1 ≤ x) (hl : x < (B.length : Int)) (y : Nat) : (mark1 B x)[y]? = if x = (y : Int) then some true else B[y]? := by
  unfold mark1
  by_cases h : x = -1
  · rw [if_pos h, if_neg (by omega)]
  · rw [if_neg h, List.getElem?_set]
    by_cases e : x = (y : Int)
    · rw [if_pos (by omega), if_pos e, if_pos (by omega)]
    · rw [if_neg (by omega), if_neg e]
/-- What is marked when the items from k on were looked at. -/
structure Marks (items : List It) (n k : Nat) (B : List Bool) : Prop where
  len : B.length = n + 1
  top : B[n]? = some true
  rch : ∀ x, B[x]? = some true → Rch items n x
  cl : ∀ y, k ≤ y → B[y]? = some true → ∀ it, items[y]? = some it → (∀ x : Nat, it.a = (x : Int) → B[x]? = some true) ∧ (∀ x : Nat, it.b = (x : Int) → B[x]? = some true)
theorem marks_start (items : List It) (n : Nat) : Marks items n (n + 1) ((List.replicate (n + 1) false).set n true) := by
  have g : ∀ x, ((List.replicate (n + 1) false).set n true)[x]? = some true → x = n := fun x h => by
    rw [List.getElem?_set] at h
    split at h
    · omega
    · rw [List.getElem?_replicate] at h
      split at h <;> cases h
  refine ⟨by simp, by simp, fun x h => ?_, fun y hy h => ?_⟩
  · rw [g x h]; exact .top
  · have := g y h; omega
theorem marks_skip {items : List It} {n k : Nat} {B : List Bool} (h : Marks items n (k + 1) B) (hk : B[k]? ≠ some true) : Marks items n k B :=
  ⟨h.len, h.top, h.rch, fun y hy hb => by
    by_cases e : y = k
    · subst e; exact absurd hb hk
    · exact h.cl y (by omega) hb⟩
theorem marks_step {items : List It} (hl : Low items) {n k : Nat} {B : List Bool} (h : Marks items n (k + 1) B) (hk : B[k]? = some true) (hkn : k ≤ n) {it : It} (hi : items[k]? = some it) (h1 : -1 ≤ it.a) (h2 : -1 ≤ it.b) : Marks items n k (mark1 (mark1 B it.a) it.b) := by
  have hlow := hl k it hi
  have hL := h.len
  have g : ∀ y : Nat, (mark1 (mark1 B it.a) it.b)[y]? = if it.b = (y : Int) then some true else if it.a = (y : Int) then some true else B[y]? := fun y => by
    rw [mark1_get h2 (by rw [mark1_len]; omega), mark1_get h1 (by omega)]
  have up : ∀ y : Nat, B[y]? = some true → (mark1 (mark1 B it.a) it.b)[y]? = some true := fun y hy => by
    rw [g]
    split
    · rfl
    · split
      · rfl
      · exact hy
  refine ⟨by rw [mark1_len, mark1_len, hL], up n h.top, fun x hx => ?_, fun y hy hb jt hj => ?_⟩
  · rw [g] at hx
    split at hx
    · rename_i e; exact .b (h.rch k hk) hi e
    · split at hx
      · rename_i e; exact .a (h.rch k hk) hi e
      · exact h.rch x hx
  · by_cases e : y = k
    · subst e
      rw [hi] at hj
      injection hj with hj
      subst hj
      refine ⟨fun x hx => ?_, fun x hx => ?_⟩
      · rw [g]
        split
        · rfl
        · rfl
      · rw [g, if_pos hx]
    · have hb' : B[y]? = some true := by
        rw [g] at hb
        rw [if_neg (by omega), if_neg (by omega)] at hb
        exact hb
      have := h.cl y (by omega) hb' jt hj
      exact ⟨fun x hx => up x (this.1 x hx), fun x hx => up x (this.2 x hx)⟩
theorem marks_end {items : List It} {n : Nat} {B : List Bool} (h : Marks items n 0 B) (x : Nat) : B[x]? = some true ↔ Rch items n x := by
  refine ⟨h.rch x, fun hr => ?_⟩
  induction hr with
  | top => exact h.top
  | a _ hi e ih => exact (h.cl _ (Nat.zero_le _) ih _ hi).1 _ e
  | b _ hi e ih => exact (h.cl _ (Nat.zero_le _) ih _ hi).2 _ e
/-- The marked ones below k, rising. -/
def trueN (B : List Bool) (k : Nat) : List Nat := (List.range k).filter fun j => decide (B[j]? = some true)
theorem trueN_succ (B : List Bool) (k : Nat) : trueN B (k + 1) = trueN B k ++ (if B[k]? = some true then [k] else []) := by
  unfold trueN
  rw [List.range_succ, List.filter_append]
  congr 1
  by_cases h : B[k]? = some true
  · simp [h]
  · simp [h]
theorem trueN_end {items : List It} (hl : Low items) {n : Nat} (hn : n < items.length) {B : List Bool} (h : Marks items n 0 B) : belowL items n = (trueN B (n + 1)).map fun j : Nat => (j : Int) := by
  unfold belowL trueN
  congr 1
  refine List.filter_congr fun j _ => ?_
  rw [decide_eq_decide, belowF_iff hl hn, marks_end h]
theorem trueN_len (B : List Bool) (k : Nat) : (trueN B k).length ≤ k := by
  unfold trueN
  have := List.length_filter_le (fun j => decide (B[j]? = some true)) (List.range k)
  simpa using this
end Go.Proofs.Ytbfhbpibpmgblaa
