/- Texts of the proof, put together: what it uses. -/
import Derived.Deep.RegionHeld3
import Derived.Test.YtejekdenpefoiaaGreatDoorY06
namespace Go.Proofs.YtejekdenpefoiaaGreatDoor
open Go.RowKit Go.Maps
def someP (rs : Nat → List Nat) (bv : List Bool) (i k : Nat) : Prop := ∃ m, m < k ∧ hasW (rs i) m = true ∧ bv.getD m false = true
def everyP (rs : Nat → List Nat) (bv : List Bool) (i k : Nat) : Prop := ∀ m, m < k → hasW (rs i) m = true → bv.getD m false = true
theorem someP_zero {rs : Nat → List Nat} {bv : List Bool} {i : Nat} : false = true ↔ someP rs bv i 0 := ⟨fun h => (by cases h), fun ⟨m, h, _⟩ => absurd h (by omega)⟩
theorem everyP_zero {rs : Nat → List Nat} {bv : List Bool} {i : Nat} : true = true ↔ everyP rs bv i 0 := ⟨fun _ m h => absurd h (by omega), fun _ => rfl⟩
theorem someP_hit {rs : Nat → List Nat} {bv : List Bool} {i k : Nat} (h1 : hasW (rs i) k = true) (h2 : bv.getD k false = true) : true = true ↔ someP rs bv i (k + 1) := ⟨fun _ => ⟨k, by omega, h1, h2⟩, fun _ => rfl⟩
theorem everyP_hit {rs : Nat → List Nat} {bv : List Bool} {i k : Nat} (h1 : hasW (rs i) k = true) (h2 : bv.getD k false = false) : false = true ↔ everyP rs bv i (k + 1) := ⟨fun h => (by cases h), fun h => by have := h k (by omega) h1; rw [h2] at this; cases this⟩
theorem someP_no {rs : Nat → List Nat} {bv : List Bool} {i k : Nat} {b : Bool} (h : b = true ↔ someP rs bv i k) (hn : hasW (rs i) k = true → bv.getD k false = false) : b = true ↔ someP rs bv i (k + 1) := by
  rw [h]
  constructor
  · rintro ⟨m, h1, h2⟩; exact ⟨m, by omega, h2⟩
  · rintro ⟨m, h1, h2, h3⟩
    by_cases e : m = k
    · subst e; rw [hn h2] at h3; cases h3
    · exact ⟨m, by omega, h2, h3⟩
theorem everyP_no {rs : Nat → List Nat} {bv : List Bool} {i k : Nat} {b : Bool} (h : b = true ↔ everyP rs bv i k) (hn : hasW (rs i) k = true → bv.getD k false = true) : b = true ↔ everyP rs bv i (k + 1) := by
  rw [h]
  constructor
  · intro h m h1 h2
    by_cases e : m = k
    · subst e; exact hn h2
    · exact h m (by omega) h2
  · intro h m h1 h2; exact h m (by omega) h2
theorem set_self {bs : List Bool} {k : Nat} (h : bs.getD k false = false) : bs.set k false = bs := by
  refine List.ext_getElem (by simp) fun i h1 h2 => ?_
  by_cases e : k = i
  · subst e
    rw [List.getD_eq_getElem?_getD, List.getElem?_eq_getElem h2] at h
    simp at h
    simp [h]
  · simp [e]
set_option maxRecDepth 100000 in
set_option maxHeartbeats 3200000 in
theorem Tryz.msomeWay_any (n g gb : Nat) (rs : Nat → List Nat) (bv : List Bool) (w : World) (hE : EndAt w g (n + 1) rs) (hB : ValAt w gb bv) (hl : bv.length = n + 1) (hn : n ≤ 10000) :
    Calls Tryz.prog 100 #[.slice (some ⟨g, 0, none⟩) (n + 1) (n + 1), .slice (some ⟨gb, 0, none⟩) (n + 1) (n + 1)] w (ValR n (fun i => someP rs bv i (n + 1)) w) := by
  have hmk := Tryz.makeB (n + 1) (by omega)
  have HE : Hid (EndAt w g (n + 1) rs) := hE
  have HVB : Hid (ValAt w gb bv) := hB
  clear hE hB
  have hq : ∃ q, n + 1 = q := ⟨_, rfl⟩
  obtain ⟨q, hq⟩ := hq
  have HQ : Hid (n + 1 = q) := hq
  rw [hq] at hmk hl ⊢
  clear hq
  have hqb : q ≤ 10001 := by have := HQ.out; omega
  go_enter Tryz.func100, Tryz.ntmps100
  go_wp2
  clear hmk
  go_loopw [14] (fun i wr => ∃ k : Nat, k ≤ q ∧ i = .int .i64 k ∧ (∃ bs, Hid (ValAt wr w.heap.size bs) ∧ Hid (FillF n (fun i => someP rs bv i q) k bs)) ∧ Hid (Below w.heap.size w wr)) (fun i _ => q - (intOf i).toNat)
  case atStart => exact ⟨0, Nat.zero_le _, rfl, ⟨List.replicate q false, ValAt.made w _, by have := FillF.zero n (fun i => someP rs bv i q); rw [HQ.out] at this; exact this⟩, below_new _ _⟩
  case round =>
    obtain ⟨n0, hn0, rfl, ⟨bs, HB, HF⟩, HW⟩ := hrel
    by_cases hnq : n0 < q
    · have hi1 := fun w' => Tryz.idxB w.heap.size q n0 w' hnq
      have hbl : bs.length = q := by rw [HF.out.len]; exact HQ.out
      have hcb := HB.out.cell (i := n0) (by omega)
      have hzb := HB.out.fz n0
      have HB0 : Hid (ValAt (wr) w.heap.size (bs.set n0 false)) := by show ValAt _ _ _; rw [set_self (HF.out.rest n0 (Nat.le_refl _))]; exact HB.out
      have HW0 : Hid (Below w.heap.size w (wr)) := HW
      clear HB HW
      go_wp2
      clear hcb hzb
      go_loopw [19] (fun i wr => ∃ k : Nat, k ≤ q ∧ i = .int .i64 k ∧ (∃ bb : Bool, Hid (ValAt wr w.heap.size (bs.set n0 bb)) ∧ Hid (bb = true ↔ someP rs bv n0 k)) ∧ Hid (Below w.heap.size w wr)) (fun i _ => q - (intOf i).toNat)
      case atStart => exact ⟨0, Nat.zero_le _, rfl, ⟨false, HB0, someP_zero⟩, HW0⟩
      case round =>
        obtain ⟨k, hk, rfl, ⟨bb, HB, HP⟩, HW⟩ := hrel
        clear HB0 HW0
        by_cases hlt : k < q
        · have hEr := HE.out.up HW.out
          have hVr := HVB.out.up HW.out
          have hi2 := fun w' => Tryz.idxB gb q k w' hlt
          have hc2 := hVr.cell (i := k) (by omega)
          have hi3 := fun w' => Tryz.idxUs g q n0 w' hnq
          have hc3 := hEr.cell (i := n0) (by have := HQ.out; omega)
          have hhas := Tryz.mhas_any (g + 1 + n0) (wordsN (n + 1)) k (rs n0) wr (hEr.rows n0 (by have := HQ.out; omega)) (HE.out.ok n0 (by have := HQ.out; omega)) (words_in (by have := HQ.out; omega)) (by omega)
          generalize wordsN (n + 1) = W at *
          have HN : Hid _ := someP_no HP.out
          have HH : Hid _ := someP_hit (rs := rs) (bv := bv) (i := n0) (k := k)
          clear hEr hVr
          generalize bv.getD k false = p at *
          cases p with
          | false =>
            clear hhas
            go_wp2
            go_roundw
            case rel => exact ⟨k + 1, by omega, by go_num, ⟨bb, HB, HN.out (fun _ => rfl)⟩, HW⟩
            case measure => simp [intOf] <;> omega
          | true =>
            generalize hasW (rs n0) k = r at *
            go_wp2_with fail
            refine hhas.mono ?_
            rintro e w3 ⟨rfl, hb3⟩
            have HB3 : Hid (ValAt w3 w.heap.size (bs.set n0 bb)) := HB.out.up hb3
            have HW3 : Hid (Below w.heap.size w w3) := below_step HW.out hb3
            clear hhas hb3 HB HW hc2 hc3
            cases r with
            | false =>
              go_wp2
              go_roundw
              case rel => exact ⟨k + 1, by omega, by go_num, ⟨bb, HB3, HN.out (fun h => (by cases h))⟩, HW3⟩
              case measure => simp [intOf] <;> omega
            | true =>
              have hcb := HB3.out.cell (i := n0) (by rw [List.length_set]; omega)
              have hzb := HB3.out.fz n0
              have HB4 : Hid _ := HB3.out.set n0 true
              go_wp2
              go_roundw
              case rel => exact ⟨k + 1, by omega, by go_num, ⟨true, by have := HB4.out; rw [List.set_set] at this; exact this, by have h := HH.out; simp at h; show (_ = true ↔ _); simp [h]⟩, HW3.out.setCell (Nat.le_refl _) _⟩
              case measure => simp [intOf] <;> omega
        · obtain rfl : k = q := by omega
          go_wp2
          go_roundw
          case rel => exact ⟨n0 + 1, by omega, by go_num, ⟨_, HB, HF.out.next (by have := HQ.out; omega) HP.out⟩, HW⟩
          case measure => simp [intOf] <;> omega
    · obtain rfl : n0 = q := by omega
      go_wp2
      go_ret
      unfold ValR
      have e := HQ.out
      subst e
      exact ⟨_, bs, rfl, HB.out, HF.out.len, fun i hi => HF.out.done i (by omega), HW.out, Nat.le_refl _⟩
set_option maxRecDepth 100000 in
set_option maxHeartbeats 3200000 in
theorem Tryz.meveryWay_any (n g gb : Nat) (rs : Nat → List Nat) (bv : List Bool) (w : World) (hE : EndAt w g (n + 1) rs) (hB : ValAt w gb bv) (hl : bv.length = n + 1) (hn : n ≤ 10000) :
    Calls Tryz.prog 101 #[.slice (some ⟨g, 0, none⟩) (n + 1) (n + 1), .slice (some ⟨gb, 0, none⟩) (n + 1) (n + 1)] w (ValR n (fun i => everyP rs bv i (n + 1)) w) := by
  have hmk := Tryz.makeB (n + 1) (by omega)
  have HE : Hid (EndAt w g (n + 1) rs) := hE
  have HVB : Hid (ValAt w gb bv) := hB
  clear hE hB
  have hq : ∃ q, n + 1 = q := ⟨_, rfl⟩
  obtain ⟨q, hq⟩ := hq
  have HQ : Hid (n + 1 = q) := hq
  rw [hq] at hmk hl ⊢
  clear hq
  have hqb : q ≤ 10001 := by have := HQ.out; omega
  go_enter Tryz.func101, Tryz.ntmps101
  go_wp2
  clear hmk
  go_loopw [14] (fun i wr => ∃ k : Nat, k ≤ q ∧ i = .int .i64 k ∧ (∃ bs, Hid (ValAt wr w.heap.size bs) ∧ Hid (FillF n (fun i => everyP rs bv i q) k bs)) ∧ Hid (Below w.heap.size w wr)) (fun i _ => q - (intOf i).toNat)
  case atStart => exact ⟨0, Nat.zero_le _, rfl, ⟨List.replicate q false, ValAt.made w _, by have := FillF.zero n (fun i => everyP rs bv i q); rw [HQ.out] at this; exact this⟩, below_new _ _⟩
  case round =>
    obtain ⟨n0, hn0, rfl, ⟨bs, HB, HF⟩, HW⟩ := hrel
    by_cases hnq : n0 < q
    · have hi1 := fun w' => Tryz.idxB w.heap.size q n0 w' hnq
      have hbl : bs.length = q := by rw [HF.out.len]; exact HQ.out
      have hcb := HB.out.cell (i := n0) (by omega)
      have hzb := HB.out.fz n0
      have HB0 : Hid (ValAt (wr.setCell ⟨w.heap.size, n0, none⟩ (.bool true)) w.heap.size (bs.set n0 true)) := HB.out.set n0 true
      have HW0 : Hid (Below w.heap.size w (wr.setCell ⟨w.heap.size, n0, none⟩ (.bool true))) := HW.out.setCell (Nat.le_refl _) _
      clear HB HW
      go_wp2
      clear hcb hzb
      go_loopw [22] (fun i wr => ∃ k : Nat, k ≤ q ∧ i = .int .i64 k ∧ (∃ bb : Bool, Hid (ValAt wr w.heap.size (bs.set n0 bb)) ∧ Hid (bb = true ↔ everyP rs bv n0 k)) ∧ Hid (Below w.heap.size w wr)) (fun i _ => q - (intOf i).toNat)
      case atStart => exact ⟨0, Nat.zero_le _, rfl, ⟨true, HB0, everyP_zero⟩, HW0⟩
      case round =>
        obtain ⟨k, hk, rfl, ⟨bb, HB, HP⟩, HW⟩ := hrel
        clear HB0 HW0
        by_cases hlt : k < q
        · have hEr := HE.out.up HW.out
          have hVr := HVB.out.up HW.out
          have hi2 := fun w' => Tryz.idxB gb q k w' hlt
          have hc2 := hVr.cell (i := k) (by omega)
          have hi3 := fun w' => Tryz.idxUs g q n0 w' hnq
          have hc3 := hEr.cell (i := n0) (by have := HQ.out; omega)
          have hhas := Tryz.mhas_any (g + 1 + n0) (wordsN (n + 1)) k (rs n0) wr (hEr.rows n0 (by have := HQ.out; omega)) (HE.out.ok n0 (by have := HQ.out; omega)) (words_in (by have := HQ.out; omega)) (by omega)
          generalize wordsN (n + 1) = W at *
          have HN : Hid _ := everyP_no HP.out
          have HH : Hid _ := everyP_hit (rs := rs) (bv := bv) (i := n0) (k := k)
          clear hEr hVr
          generalize bv.getD k false = p at *
          cases p with
          | true =>
            clear hhas
            go_wp2
            go_roundw
            case rel => exact ⟨k + 1, by omega, by go_num, ⟨bb, HB, HN.out (fun _ => rfl)⟩, HW⟩
            case measure => simp [intOf] <;> omega
          | false =>
            generalize hasW (rs n0) k = r at *
            go_wp2_with fail
            refine hhas.mono ?_
            rintro e w3 ⟨rfl, hb3⟩
            have HB3 : Hid (ValAt w3 w.heap.size (bs.set n0 bb)) := HB.out.up hb3
            have HW3 : Hid (Below w.heap.size w w3) := below_step HW.out hb3
            clear hhas hb3 HB HW hc2 hc3
            cases r with
            | false =>
              go_wp2
              go_roundw
              case rel => exact ⟨k + 1, by omega, by go_num, ⟨bb, HB3, HN.out (fun h => (by cases h))⟩, HW3⟩
              case measure => simp [intOf] <;> omega
            | true =>
              have hcb := HB3.out.cell (i := n0) (by rw [List.length_set]; omega)
              have hzb := HB3.out.fz n0
              have HB4 : Hid _ := HB3.out.set n0 false
              go_wp2
              go_roundw
              case rel => exact ⟨k + 1, by omega, by go_num, ⟨false, by have := HB4.out; rw [List.set_set] at this; exact this, by have h := HH.out; simp at h; show (_ = true ↔ _); simp [h]⟩, HW3.out.setCell (Nat.le_refl _) _⟩
              case measure => simp [intOf] <;> omega
        · obtain rfl : k = q := by omega
          go_wp2
          go_roundw
          case rel => exact ⟨n0 + 1, by omega, by go_num, ⟨_, HB, HF.out.next (by have := HQ.out; omega) HP.out⟩, HW⟩
          case measure => simp [intOf] <;> omega
    · obtain rfl : n0 = q := by omega
      go_wp2
      go_ret
      unfold ValR
      have e := HQ.out
      subst e
      exact ⟨_, bs, rfl, HB.out, HF.out.len, fun i hi => HF.out.done i (by omega), HW.out, Nat.le_refl _⟩
end Go.Proofs.YtejekdenpefoiaaGreatDoor
namespace Go.Proofs.YtejekdenpefoiaaGreatDoor
open Go.RowKit Go.Maps
abbrev Sl := Option Addr × Nat × Nat
def slV (s : Sl) : Value := .slice s.1 s.2.1 s.2.2
/-- A part as it lies in memory: its values, its ends. -/
abbrev Mp := Sl × Sl
def encS (st : List Mp) : List Value := st.flatMap fun x => [slV x.1, slV x.2]
theorem encS_cons (x : Mp) (st : List Mp) : encS (x :: st) = slV x.1 :: slV x.2 :: encS st := rfl
theorem encS_append (xs ys : List Mp) : encS (xs ++ ys) = encS xs ++ encS ys := by simp [encS]
theorem encS_len : ∀ st : List Mp, (encS st).length = st.length * 2
  | [] => rfl
  | x :: st => by rw [encS_cons]; simp [encS_len st]; omega
theorem encS_get : ∀ (st : List Mp) (i : Nat) (h : i < st.length), (encS st)[2 * i]? = some (slV st[i].1) ∧ (encS st)[2 * i + 1]? = some (slV st[i].2)
  | [], i, h => absurd h (by simp)
  | x :: st, 0, _ => ⟨rfl, rfl⟩
  | x :: st, i + 1, h => by
    have := encS_get st i (by simpa using h)
    rw [encS_cons, show 2 * (i + 1) = 2 * i + 1 + 1 by omega, show 2 * i + 1 + 1 + 1 = (2 * i + 1) + 1 + 1 by omega]
    simpa using this
theorem encS_one (st : List Mp) : ∀ u ∈ encS st, u.oneCell' = true := by
  intro u hu
  unfold encS at hu
  obtain ⟨c, _, hc⟩ := List.mem_flatMap.1 hu
  simp at hc
  rcases hc with rfl | rfl <;> rfl
theorem owns_keep {w w' : World} {base e size n : Nat} {v : Value} {xs : List Value} (h : w.ownsRow base e size v n xs) (hk : ∀ k, base ≤ k → k < w.heap.size → w'.heap[k]? = w.heap[k]?) : w'.ownsRow base e size v n xs := by
  obtain ⟨hl, h⟩ := h
  refine ⟨hl, h.imp id ?_⟩
  rintro ⟨g, cap, cur, rfl, hg, hcell, r⟩
  exact ⟨g, cap, cur, rfl, hg, (hk g hg (Array.getElem?_eq_some_iff.1 hcell).1).trans hcell, r⟩
theorem own_sl {w : World} {base e size n : Nat} {v : Value} {xs : List Value} (h : w.ownsRow base e size v n xs) : ∃ a cap, v = .slice a n cap := by
  rcases h.2 with ⟨rfl, rfl⟩ | ⟨g, cap, cur, rfl, _⟩
  · exact ⟨none, 0, rfl⟩
  · exact ⟨_, cap, rfl⟩
theorem Tryz.sizePt : (Tryz.prog.info? 70).map (·.size) = some 2 := by kernel_rfl
theorem Tryz.infoPt : (Tryz.prog.info? 70).map (fun i => (i.zero, i.size, i.bytes)) = some (some (.agg #[.slice none 0 0, .slice none 0 0]), 2, 48) := by kernel_rfl
/-- The stack's variable: its block, what lies on it; all of it below B. -/
structure StkAt (w : World) (b B : Nat) (st : List Mp) : Prop where
  c : ∃ v, w.heap[b]? = some (.cells #[v] 115 (0, 0)) ∧ w.ownsRow (b + 1) 70 2 v st.length (encS st) ∧ ∀ k, v.ownBlock = some k → k < B
  lt : b < B
theorem StkAt.keep {w w' : World} {b B : Nat} {st : List Mp} (h : StkAt w b B st) (hk : ∀ k c t z, w.heap[k]? = some (.cells c t z) → (t = 115 ∨ t = 70) → b ≤ k → k < B → w'.heap[k]? = w.heap[k]?) : StkAt w' b B st := by
  obtain ⟨v, h1, h2, h3⟩ := h.c
  refine ⟨⟨v, (hk b _ _ _ h1 (Or.inl rfl) (Nat.le_refl _) h.lt).trans h1, ?_, h3⟩, h.lt⟩
  obtain ⟨hl, h⟩ := h2
  refine ⟨hl, h.imp id ?_⟩
  rintro ⟨g, cap, cur, rfl, hg, hcell, r⟩
  exact ⟨g, cap, cur, rfl, hg, (hk g _ _ _ hcell (Or.inr rfl) (by omega) (h3 g rfl)).trans hcell, r⟩
theorem StkAt.up {w w' : World} {b B : Nat} {st : List Mp} (h : StkAt w b B st) (hb : Below w.heap.size w w') : StkAt w' b B st := h.keep fun k _ _ _ hc _ _ _ => hb.block k (Array.getElem?_eq_some_iff.1 hc).1
theorem StkAt.size {w : World} {b B : Nat} {st : List Mp} (h : StkAt w b B st) : StkAt w b w.heap.size st := by
  obtain ⟨v, h1, h2, h3⟩ := h.c
  refine ⟨⟨v, h1, h2, fun k hk => ?_⟩, (Array.getElem?_eq_some_iff.1 h1).1⟩
  rcases h2.2 with ⟨rfl, _⟩ | ⟨g, cap, cur, rfl, _, hcell, _⟩
  · cases hk
  · injection hk with hk
    dsimp only at hk
    subst hk
    exact (Array.getElem?_eq_some_iff.1 hcell).1
theorem own_pc {w : World} {base e n : Nat} {v : Value} {st : List Mp} (h : w.ownsRow base e 2 v n (encS st)) (hn : 0 < n) :
    ∃ g cap, v = .slice (some ⟨g, 0, none⟩) n cap ∧ base ≤ g ∧ n ≤ cap ∧ cap ≤ maxLen ∧ st.length = n ∧ ∀ i (h : i < st.length), w.cell? ⟨g, 2 * i, none⟩ = some (slV st[i].1) ∧ w.cell? ⟨g, 2 * i + 1, none⟩ = some (slV st[i].2) := by
  obtain ⟨hl, h⟩ := h
  rw [encS_len] at hl
  have hl' : st.length = n := by omega
  rcases h with ⟨_, rfl⟩ | ⟨g, cap, cur, rfl, hg, hcell, hnc, hcm, hsz, htk⟩
  · omega
  · have key : ∀ j, j < n * 2 → w.cell? ⟨g, j, none⟩ = (encS st)[j]? := fun j hj => by
      rw [← htk, List.getElem?_take, if_pos hj]
      simp [World.cell?, hcell]
    refine ⟨g, cap, rfl, hg, hnc, hcm, hl', fun i hi => ⟨?_, ?_⟩⟩
    · rw [key _ (by omega)]; exact (encS_get st i hi).1
    · rw [key _ (by omega)]; exact (encS_get st i hi).2
set_option maxHeartbeats 1600000 in
theorem Tryz.mtake_any (b B : Nat) (st : List Mp) (x : Mp) (w : World) (h : StkAt w b B (st ++ [x])) (hn : st.length ≤ 1000000) :
    Calls Tryz.prog 70 #[.pointer (some ⟨b, 0, none⟩)] w fun e w' => e = .returned (.agg #[slV x.1, slV x.2]) ∧ StkAt w' b B st ∧ w.grownBy w' (some b) := by
  have hltB := h.lt
  obtain ⟨v, hr, ho, hB⟩ := h.c
  have hlt : b < w.heap.size := (Array.getElem?_eq_some_iff.1 hr).1
  have HR : Hid (w.heap[b]? = some (.cells #[v] 115 (0, 0))) := hr
  rw [encS_append, List.length_append, List.length_singleton] at ho
  have HO : Hid (w.ownsRow (b + 1) 70 2 v (st.length + 1) (encS st ++ encS [x])) := ho
  have ho' := ho
  rw [← encS_append] at ho'
  obtain ⟨g, cap, rfl, hg, hnc, hcm, hl', hcs⟩ := own_pc ho' (by omega)
  have hc := hcs st.length (by simp)
  simp only [List.getElem_append_right (Nat.le_refl st.length), Nat.sub_self, List.getElem_cons_zero] at hc
  obtain ⟨c0, c1⟩ := hc
  have hgl := World.block_lt_of_cell? _ _ c0
  have cb : w.cell? ⟨b, 0, none⟩ = some (.slice (some ⟨g, 0, none⟩) (st.length + 1) cap) := cell_row hr 0
  have zb : w.frozen? ⟨b, 0, none⟩ = false := frozen_of_row w b 0 _ _ hr
  have hidx := fun w' => idx_of2 Tryz.underlying115 Tryz.sizePt (g := g) (cap := cap) (n := st.length + 1) st.length w' (by omega)
  have hsl : ∀ w', (Instr.sliceAt 115 (.slice (some ⟨g, 0, none⟩) (st.length + 1) cap) none (some (.int .i64 (st.length : Int))) none).run Tryz.prog w' = .ok (.slice (some ⟨g, 0, none⟩) st.length cap) w' := fun w' => by
    have hmc : st.length ≤ cap := by omega
    simp [Instr.sliceAt, Instr.slice, run_underlying Tryz.underlying115, sizeOf_run2 Tryz.sizePt, go_sem, hmc]
  have HBg : Hid (g < B) := hB g rfl
  have HFIN : Hid (∀ w', w'.heap[b]? = some (.cells #[.slice (some ⟨g, 0, none⟩) st.length cap] 115 (0, 0)) → w.grownBy w' (some b) → StkAt w' b B st) := fun w' h1 h2 => by
    refine ⟨⟨_, h1, ?_, fun k hk => ?_⟩, hltB⟩
    · exact owns_keep (ownsRow_pop (by rw [encS_len]) HO.out) fun k hb hk => h2.block k hk (fun e => by injection e with e; omega)
    · injection hk with hk; dsimp only at hk; subst hk; exact HBg.out
  clear h hr ho ho' hcs hl' HO hB hcm hg hltB
  obtain ⟨⟨xa, xl, xc⟩, ⟨ya, yl, yc⟩⟩ := x
  unfold slV at *
  dsimp only at *
  go_enter Tryz.func70, Tryz.ntmps70
  go_wp2
  go_region
  go_wp2
  go_region
  go_wp2
  refine bodyPost_ret (v := .agg #[.slice xa xl xc, .slice ya yl yc]) (by simp [results, Tryz.results70, go_sem]) rfl ⟨rfl, ?_⟩
  have e1 : w.grownBy (w.setCell ⟨b, 0, none⟩ (.slice (some ⟨g, 0, none⟩) st.length cap)) (some b) := ⟨rfl, rfl, rfl, by simp, fun k hk hne => Below.heap_setCell _ _ _ _ (fun e => hne (congrArg some e))⟩
  have e2 := below_step (below_new (w.setCell ⟨b, 0, none⟩ (.slice (some ⟨g, 0, none⟩) st.length cap)) (.cells #[.slice xa xl xc, .slice ya yl yc] 70)) (below_new _ (.cells #[.slice xa xl xc, .slice ya yl yc] 70))
  have e3 := e1.trans (c := (((w.setCell ⟨b, 0, none⟩ (.slice (some ⟨g, 0, none⟩) st.length cap)).alloc (.cells #[.slice xa xl xc, .slice ya yl yc] 70)).alloc (.cells #[.slice xa xl xc, .slice ya yl yc] 70)).drew.drew) ⟨rfl, rfl, rfl, e2.size, fun k hk _ => e2.block k hk⟩
  refine ⟨HFIN.out _ ?_ e3, e3⟩
  refine (e2.block b (by simp; exact hlt)).trans ?_
  rw [heap_setCell_same w b 0 _ _ _ HR.out]; rfl
end Go.Proofs.YtejekdenpefoiaaGreatDoor
namespace Go.Proofs.YtejekdenpefoiaaGreatDoor
open Go.RowKit Go.Maps
theorem fin_rec {n : Nat} {A : Nat → Prop} (i : Nat) : unV n 9 A i ↔ i < n ∧ (A i ∨ unV n 9 A (i + 1)) := by
  simp [unV]
  constructor
  · rintro ⟨j, h1, h2, h3⟩
    refine ⟨by omega, ?_⟩
    by_cases e : j = i
    · subst e; exact Or.inl h3
    · exact Or.inr ⟨j, by omega, h2, h3⟩
  · rintro ⟨h, h1 | ⟨j, h1, h2, h3⟩⟩
    · exact ⟨i, Nat.le_refl _, h, h1⟩
    · exact ⟨j, by omega, h2, h3⟩
theorem glo_rec {n : Nat} {A : Nat → Prop} {i : Nat} (hi : i ≤ n) : unV n 10 A i ↔ i = n ∨ A i ∧ unV n 10 A (i + 1) := by
  simp [unV]
  constructor
  · intro h
    by_cases e : i = n
    · exact Or.inl e
    · exact Or.inr ⟨h i (Nat.le_refl _) (by omega), fun j h1 h2 => h j (by omega) h2⟩
  · rintro (rfl | ⟨h1, h2⟩) j j1 j2
    · omega
    · by_cases e : j = i
      · subst e; exact h1
      · exact h2 j (by omega) j2
set_option maxRecDepth 100000 in
set_option maxHeartbeats 1600000 in
theorem Tryz.mone6_any (n ga : Nat) (av : List Bool) (A : Nat → Prop) (w : World) (hA : ValAt w ga av) (hl : av.length = n + 1) (hv : ∀ i, i ≤ n → (av.getD i false = true ↔ A i)) (hn : n ≤ 10000) :
    Calls Tryz.prog 96 #[.int .u8 6, .slice (some ⟨ga, 0, none⟩) (n + 1) (n + 1)] w (ValR n (unV n 6 A) w) := by
  have hmk := Tryz.makeB (n + 1) (by omega)
  have en : ((n + 1 : Nat) : Int) = (n : Int) + 1 := by omega
  rw [en] at hmk
  have HA : Hid (ValAt w ga av) := hA
  have hga := hA.lt
  have HV : Hid (∀ i, i ≤ n → (av.getD i false = true ↔ A i)) := hv
  have HREC : Hid (∀ i, i ≤ n → ((unV n 6 A) i ↔ ¬ A i)) := fun i hi => by
    simp [unV]
  clear hA hv
  generalize (unV n 6 A) = V at *
  have e1 : (n : Int) + 1 - 1 = (n : Int) := by omega
  go_enter Tryz.func96, Tryz.ntmps96
  go_wp2
  clear hmk
  go_loopw [7] (fun i wr => ∃ k : Nat, k ≤ n + 1 ∧ i = .int .i64 ((k : Int) - 1) ∧ (∃ bs, Hid (ValAt wr w.heap.size bs) ∧ Hid (FillB n V k bs)) ∧ Hid (Below w.heap.size w wr)) (fun i _ => (intOf i + 1).toNat)
  case atStart => exact ⟨n + 1, Nat.le_refl _, by rw [en, e1], ⟨List.replicate (n + 1) false, ValAt.made w _, by simp, fun i h1 h2 => absurd h1 (by omega)⟩, below_new _ _⟩
  case round =>
    obtain ⟨k1, hk1, rfl, ⟨bs, HB, HF⟩, HW⟩ := hrel
    by_cases hk0 : k1 = 0
    · subst hk0
      have hle : ¬ (0 : Int) ≤ ((0 : Nat) : Int) - 1 := by omega
      go_wp2
      go_ret
      unfold ValR
      exact ⟨_, bs, rfl, HB.out, HF.out.len, fun i hi => HF.out.done i (Nat.zero_le _) hi, HW.out, Nat.le_refl _⟩
    · obtain ⟨k, rfl⟩ : ∃ k, k1 = k + 1 := ⟨k1 - 1, by omega⟩
      have hkn : k ≤ n := by omega
      have em : (((k + 1 : Nat) : Int) - 1) = (k : Int) := by omega
      rw [em]
      have hle : (0 : Int) ≤ (k : Int) := by omega
      have hAr := HA.out.up HW.out
      have hi1 := fun w' => Tryz.idxB ga (n + 1) k w' (by omega)
      have hi2 := fun w' => Tryz.idxB w.heap.size (n + 1) k w' (by omega)
      have hca := hAr.cell (i := k) (by omega)
      have hcb := HB.out.cell (i := k) (by rw [HF.out.len]; omega)
      have hzb := HB.out.fz k
      have HST : Hid (∀ b : Bool, ValAt (wr.setCell ⟨w.heap.size, k, none⟩ (.bool b)) w.heap.size (bs.set k b) ∧ Below w.heap.size w (wr.setCell ⟨w.heap.size, k, none⟩ (.bool b))) := fun b => ⟨HB.out.set k b, HW.out.setCell (Nat.le_refl _) _⟩
      have HRk : Hid _ := HREC.out k hkn
      have HVk : Hid _ := HV.out k hkn
      clear em hk0 e1 en
      generalize av.getD k false = q at *
      cases q with
      | false =>
        have HNA : Hid (¬ A k) := fun h => (by have := HVk.out.2 h; cases this)
        go_wp2
        go_roundw
        case rel =>
          refine ⟨k, by omega, rfl, ⟨_, (HST.out _).1, HF.out.next hkn ?_⟩, (HST.out _).2⟩
          rw [HRk.out]
          simpa using HNA.out
        case measure => simp [intOf] <;> omega
      | true =>
        have HYA : Hid (A k) := HVk.out.1 rfl
        go_wp2
        go_roundw
        case rel =>
          refine ⟨k, by omega, rfl, ⟨_, (HST.out _).1, HF.out.next hkn ?_⟩, (HST.out _).2⟩
          rw [HRk.out]
          simpa using HYA.out
        case measure => simp [intOf] <;> omega
set_option maxRecDepth 100000 in
set_option maxHeartbeats 1600000 in
theorem Tryz.mone7_any (n ga : Nat) (av : List Bool) (A : Nat → Prop) (w : World) (hA : ValAt w ga av) (hl : av.length = n + 1) (hv : ∀ i, i ≤ n → (av.getD i false = true ↔ A i)) (hn : n ≤ 10000) :
    Calls Tryz.prog 96 #[.int .u8 7, .slice (some ⟨ga, 0, none⟩) (n + 1) (n + 1)] w (ValR n (unV n 7 A) w) := by
  have hmk := Tryz.makeB (n + 1) (by omega)
  have en : ((n + 1 : Nat) : Int) = (n : Int) + 1 := by omega
  rw [en] at hmk
  have HA : Hid (ValAt w ga av) := hA
  have hga := hA.lt
  have HV : Hid (∀ i, i ≤ n → (av.getD i false = true ↔ A i)) := hv
  have HREC : Hid (∀ i, i ≤ n → ((unV n 7 A) i ↔ i + 1 < n ∧ A (i + 1))) := fun i hi => by
    simp [unV]
  clear hA hv
  generalize (unV n 7 A) = V at *
  have e1 : (n : Int) + 1 - 1 = (n : Int) := by omega
  go_enter Tryz.func96, Tryz.ntmps96
  go_wp2
  clear hmk
  go_loopw [7] (fun i wr => ∃ k : Nat, k ≤ n + 1 ∧ i = .int .i64 ((k : Int) - 1) ∧ (∃ bs, Hid (ValAt wr w.heap.size bs) ∧ Hid (FillB n V k bs)) ∧ Hid (Below w.heap.size w wr)) (fun i _ => (intOf i + 1).toNat)
  case atStart => exact ⟨n + 1, Nat.le_refl _, by rw [en, e1], ⟨List.replicate (n + 1) false, ValAt.made w _, by simp, fun i h1 h2 => absurd h1 (by omega)⟩, below_new _ _⟩
  case round =>
    obtain ⟨k1, hk1, rfl, ⟨bs, HB, HF⟩, HW⟩ := hrel
    by_cases hk0 : k1 = 0
    · subst hk0
      have hle : ¬ (0 : Int) ≤ ((0 : Nat) : Int) - 1 := by omega
      go_wp2
      go_ret
      unfold ValR
      exact ⟨_, bs, rfl, HB.out, HF.out.len, fun i hi => HF.out.done i (Nat.zero_le _) hi, HW.out, Nat.le_refl _⟩
    · obtain ⟨k, rfl⟩ : ∃ k, k1 = k + 1 := ⟨k1 - 1, by omega⟩
      have hkn : k ≤ n := by omega
      have em : (((k + 1 : Nat) : Int) - 1) = (k : Int) := by omega
      rw [em]
      have hle : (0 : Int) ≤ (k : Int) := by omega
      have hAr := HA.out.up HW.out
      have hi1 := fun w' => Tryz.idxB ga (n + 1) k w' (by omega)
      have hi2 := fun w' => Tryz.idxB w.heap.size (n + 1) k w' (by omega)
      have hca := hAr.cell (i := k) (by omega)
      have hcb := HB.out.cell (i := k) (by rw [HF.out.len]; omega)
      have hzb := HB.out.fz k
      have HST : Hid (∀ b : Bool, ValAt (wr.setCell ⟨w.heap.size, k, none⟩ (.bool b)) w.heap.size (bs.set k b) ∧ Below w.heap.size w (wr.setCell ⟨w.heap.size, k, none⟩ (.bool b))) := fun b => ⟨HB.out.set k b, HW.out.setCell (Nat.le_refl _) _⟩
      have HRk : Hid _ := HREC.out k hkn
      have HVk : Hid _ := HV.out k hkn
      clear em hk0 e1 en
      by_cases hc : k + 1 < n
      · have hci : (k : Int) + 1 < (n : Int) := by omega
        have hj1 := fun w' => Tryz.idxB ga (n + 1) (k + 1) w' (by omega)
        rw [show ((k + 1 : Nat) : Int) = (k : Int) + 1 by omega] at hj1
        have hcj := hAr.cell (i := k + 1) (by omega)
        have HVj : Hid _ := HV.out (k + 1) (by omega)
        generalize av.getD (k + 1) false = q at *
        cases q with
        | false =>
          go_wp2
          go_roundw
          case rel =>
            refine ⟨k, by omega, rfl, ⟨_, (HST.out _).1, HF.out.next hkn ?_⟩, (HST.out _).2⟩
            rw [HRk.out]
            simp [hc]; intro h; have := HVj.out.2 h; cases this
          case measure => simp [intOf] <;> omega
        | true =>
          go_wp2
          go_roundw
          case rel =>
            refine ⟨k, by omega, rfl, ⟨_, (HST.out _).1, HF.out.next hkn ?_⟩, (HST.out _).2⟩
            rw [HRk.out]
            simp [hc, HVj.out.1 rfl]
          case measure => simp [intOf] <;> omega
      · have hci : ¬ (k : Int) + 1 < (n : Int) := by omega
        go_wp2
        go_roundw
        case rel =>
          refine ⟨k, by omega, rfl, ⟨_, (HST.out _).1, HF.out.next hkn ?_⟩, (HST.out _).2⟩
          rw [HRk.out]
          simp [hc]
        case measure => simp [intOf] <;> omega
set_option maxRecDepth 100000 in
set_option maxHeartbeats 1600000 in
theorem Tryz.mone8_any (n ga : Nat) (av : List Bool) (A : Nat → Prop) (w : World) (hA : ValAt w ga av) (hl : av.length = n + 1) (hv : ∀ i, i ≤ n → (av.getD i false = true ↔ A i)) (hn : n ≤ 10000) :
    Calls Tryz.prog 96 #[.int .u8 8, .slice (some ⟨ga, 0, none⟩) (n + 1) (n + 1)] w (ValR n (unV n 8 A) w) := by
  have hmk := Tryz.makeB (n + 1) (by omega)
  have en : ((n + 1 : Nat) : Int) = (n : Int) + 1 := by omega
  rw [en] at hmk
  have HA : Hid (ValAt w ga av) := hA
  have hga := hA.lt
  have HV : Hid (∀ i, i ≤ n → (av.getD i false = true ↔ A i)) := hv
  have HREC : Hid (∀ i, i ≤ n → ((unV n 8 A) i ↔ n ≤ i + 1 ∨ A (i + 1))) := fun i hi => by
    simp only [unV, if_neg (show ¬ (8 = 6) by decide), if_neg (show ¬ (8 = 7) by decide), if_true]; constructor
    · intro h; by_cases hc : i + 1 < n
      · exact Or.inr (h hc)
      · exact Or.inl (by omega)
    · rintro (h | h) hc
      · omega
      · exact h
  clear hA hv
  generalize (unV n 8 A) = V at *
  have e1 : (n : Int) + 1 - 1 = (n : Int) := by omega
  go_enter Tryz.func96, Tryz.ntmps96
  go_wp2
  clear hmk
  go_loopw [7] (fun i wr => ∃ k : Nat, k ≤ n + 1 ∧ i = .int .i64 ((k : Int) - 1) ∧ (∃ bs, Hid (ValAt wr w.heap.size bs) ∧ Hid (FillB n V k bs)) ∧ Hid (Below w.heap.size w wr)) (fun i _ => (intOf i + 1).toNat)
  case atStart => exact ⟨n + 1, Nat.le_refl _, by rw [en, e1], ⟨List.replicate (n + 1) false, ValAt.made w _, by simp, fun i h1 h2 => absurd h1 (by omega)⟩, below_new _ _⟩
  case round =>
    obtain ⟨k1, hk1, rfl, ⟨bs, HB, HF⟩, HW⟩ := hrel
    by_cases hk0 : k1 = 0
    · subst hk0
      have hle : ¬ (0 : Int) ≤ ((0 : Nat) : Int) - 1 := by omega
      go_wp2
      go_ret
      unfold ValR
      exact ⟨_, bs, rfl, HB.out, HF.out.len, fun i hi => HF.out.done i (Nat.zero_le _) hi, HW.out, Nat.le_refl _⟩
    · obtain ⟨k, rfl⟩ : ∃ k, k1 = k + 1 := ⟨k1 - 1, by omega⟩
      have hkn : k ≤ n := by omega
      have em : (((k + 1 : Nat) : Int) - 1) = (k : Int) := by omega
      rw [em]
      have hle : (0 : Int) ≤ (k : Int) := by omega
      have hAr := HA.out.up HW.out
      have hi1 := fun w' => Tryz.idxB ga (n + 1) k w' (by omega)
      have hi2 := fun w' => Tryz.idxB w.heap.size (n + 1) k w' (by omega)
      have hca := hAr.cell (i := k) (by omega)
      have hcb := HB.out.cell (i := k) (by rw [HF.out.len]; omega)
      have hzb := HB.out.fz k
      have HST : Hid (∀ b : Bool, ValAt (wr.setCell ⟨w.heap.size, k, none⟩ (.bool b)) w.heap.size (bs.set k b) ∧ Below w.heap.size w (wr.setCell ⟨w.heap.size, k, none⟩ (.bool b))) := fun b => ⟨HB.out.set k b, HW.out.setCell (Nat.le_refl _) _⟩
      have HRk : Hid _ := HREC.out k hkn
      have HVk : Hid _ := HV.out k hkn
      clear em hk0 e1 en
      by_cases hc : k + 1 < n
      · have hci : ¬ (n : Int) ≤ (k : Int) + 1 := by omega
        have hj1 := fun w' => Tryz.idxB ga (n + 1) (k + 1) w' (by omega)
        rw [show ((k + 1 : Nat) : Int) = (k : Int) + 1 by omega] at hj1
        have hcj := hAr.cell (i := k + 1) (by omega)
        have HVj : Hid _ := HV.out (k + 1) (by omega)
        generalize av.getD (k + 1) false = q at *
        cases q with
        | false =>
          go_wp2
          go_roundw
          case rel =>
            refine ⟨k, by omega, rfl, ⟨_, (HST.out _).1, HF.out.next hkn ?_⟩, (HST.out _).2⟩
            rw [HRk.out]
            simp; exact ⟨by omega, fun h => by have := HVj.out.2 h; cases this⟩
          case measure => simp [intOf] <;> omega
        | true =>
          go_wp2
          go_roundw
          case rel =>
            refine ⟨k, by omega, rfl, ⟨_, (HST.out _).1, HF.out.next hkn ?_⟩, (HST.out _).2⟩
            rw [HRk.out]
            simp [HVj.out.1 rfl]
          case measure => simp [intOf] <;> omega
      · have hci : (n : Int) ≤ (k : Int) + 1 := by omega
        go_wp2
        go_roundw
        case rel =>
          refine ⟨k, by omega, rfl, ⟨_, (HST.out _).1, HF.out.next hkn ?_⟩, (HST.out _).2⟩
          rw [HRk.out]
          simp; exact Or.inl (by omega)
        case measure => simp [intOf] <;> omega
set_option maxRecDepth 100000 in
set_option maxHeartbeats 1600000 in
theorem Tryz.mone9_any (n ga : Nat) (av : List Bool) (A : Nat → Prop) (w : World) (hA : ValAt w ga av) (hl : av.length = n + 1) (hv : ∀ i, i ≤ n → (av.getD i false = true ↔ A i)) (hn : n ≤ 10000) :
    Calls Tryz.prog 96 #[.int .u8 9, .slice (some ⟨ga, 0, none⟩) (n + 1) (n + 1)] w (ValR n (unV n 9 A) w) := by
  have hmk := Tryz.makeB (n + 1) (by omega)
  have en : ((n + 1 : Nat) : Int) = (n : Int) + 1 := by omega
  rw [en] at hmk
  have HA : Hid (ValAt w ga av) := hA
  have hga := hA.lt
  have HV : Hid (∀ i, i ≤ n → (av.getD i false = true ↔ A i)) := hv
  have HREC : Hid (∀ i, i ≤ n → ((unV n 9 A) i ↔ i < n ∧ (A i ∨ unV n 9 A (i + 1)))) := fun i hi => by
    exact fin_rec i
  clear hA hv
  generalize (unV n 9 A) = V at *
  have e1 : (n : Int) + 1 - 1 = (n : Int) := by omega
  go_enter Tryz.func96, Tryz.ntmps96
  go_wp2
  clear hmk
  go_loopw [7] (fun i wr => ∃ k : Nat, k ≤ n + 1 ∧ i = .int .i64 ((k : Int) - 1) ∧ (∃ bs, Hid (ValAt wr w.heap.size bs) ∧ Hid (FillB n V k bs)) ∧ Hid (Below w.heap.size w wr)) (fun i _ => (intOf i + 1).toNat)
  case atStart => exact ⟨n + 1, Nat.le_refl _, by rw [en, e1], ⟨List.replicate (n + 1) false, ValAt.made w _, by simp, fun i h1 h2 => absurd h1 (by omega)⟩, below_new _ _⟩
  case round =>
    obtain ⟨k1, hk1, rfl, ⟨bs, HB, HF⟩, HW⟩ := hrel
    by_cases hk0 : k1 = 0
    · subst hk0
      have hle : ¬ (0 : Int) ≤ ((0 : Nat) : Int) - 1 := by omega
      go_wp2
      go_ret
      unfold ValR
      exact ⟨_, bs, rfl, HB.out, HF.out.len, fun i hi => HF.out.done i (Nat.zero_le _) hi, HW.out, Nat.le_refl _⟩
    · obtain ⟨k, rfl⟩ : ∃ k, k1 = k + 1 := ⟨k1 - 1, by omega⟩
      have hkn : k ≤ n := by omega
      have em : (((k + 1 : Nat) : Int) - 1) = (k : Int) := by omega
      rw [em]
      have hle : (0 : Int) ≤ (k : Int) := by omega
      have hAr := HA.out.up HW.out
      have hi1 := fun w' => Tryz.idxB ga (n + 1) k w' (by omega)
      have hi2 := fun w' => Tryz.idxB w.heap.size (n + 1) k w' (by omega)
      have hca := hAr.cell (i := k) (by omega)
      have hcb := HB.out.cell (i := k) (by rw [HF.out.len]; omega)
      have hzb := HB.out.fz k
      have HST : Hid (∀ b : Bool, ValAt (wr.setCell ⟨w.heap.size, k, none⟩ (.bool b)) w.heap.size (bs.set k b) ∧ Below w.heap.size w (wr.setCell ⟨w.heap.size, k, none⟩ (.bool b))) := fun b => ⟨HB.out.set k b, HW.out.setCell (Nat.le_refl _) _⟩
      have HRk : Hid _ := HREC.out k hkn
      have HVk : Hid _ := HV.out k hkn
      clear em hk0 e1 en
      by_cases hc : k < n
      · have hci : (k : Int) < (n : Int) := by omega
        have hj1 := fun w' => Tryz.idxB w.heap.size (n + 1) (k + 1) w' (by omega)
        rw [show ((k + 1 : Nat) : Int) = (k : Int) + 1 by omega] at hj1
        have hcj := HB.out.cell (i := k + 1) (by rw [HF.out.len]; omega)
        have HVj : Hid _ := HF.out.done (k + 1) (Nat.le_refl _) (by omega)
        generalize av.getD k false = q at *
        generalize bs.getD (k + 1) false = r at *
        cases q with
        | false =>
          cases r with
          | false =>
            go_wp2
            go_roundw
            case rel =>
              refine ⟨k, by omega, rfl, ⟨_, (HST.out _).1, HF.out.next hkn ?_⟩, (HST.out _).2⟩
              rw [HRk.out]
              simp; intro _; exact ⟨fun h => (by have := HVk.out.2 h; cases this), fun h => (by have := HVj.out.2 h; cases this)⟩
            case measure => simp [intOf] <;> omega
          | true =>
            go_wp2
            go_roundw
            case rel =>
              refine ⟨k, by omega, rfl, ⟨_, (HST.out _).1, HF.out.next hkn ?_⟩, (HST.out _).2⟩
              rw [HRk.out]
              simp [hc]; exact Or.inr (HVj.out.1 rfl)
            case measure => simp [intOf] <;> omega
        | true =>
          go_wp2
          go_roundw
          case rel =>
            refine ⟨k, by omega, rfl, ⟨_, (HST.out _).1, HF.out.next hkn ?_⟩, (HST.out _).2⟩
            rw [HRk.out]
            simp [hc]; exact Or.inl (HVk.out.1 rfl)
          case measure => simp [intOf] <;> omega
      · have hci : ¬ (k : Int) < (n : Int) := by omega
        go_wp2
        go_roundw
        case rel =>
          refine ⟨k, by omega, rfl, ⟨_, (HST.out _).1, HF.out.next hkn ?_⟩, (HST.out _).2⟩
          rw [HRk.out]
          simp [hc]
        case measure => simp [intOf] <;> omega
set_option maxRecDepth 100000 in
set_option maxHeartbeats 1600000 in
theorem Tryz.mone10_any (n ga : Nat) (av : List Bool) (A : Nat → Prop) (w : World) (hA : ValAt w ga av) (hl : av.length = n + 1) (hv : ∀ i, i ≤ n → (av.getD i false = true ↔ A i)) (hn : n ≤ 10000) :
    Calls Tryz.prog 96 #[.int .u8 10, .slice (some ⟨ga, 0, none⟩) (n + 1) (n + 1)] w (ValR n (unV n 10 A) w) := by
  have hmk := Tryz.makeB (n + 1) (by omega)
  have en : ((n + 1 : Nat) : Int) = (n : Int) + 1 := by omega
  rw [en] at hmk
  have HA : Hid (ValAt w ga av) := hA
  have hga := hA.lt
  have HV : Hid (∀ i, i ≤ n → (av.getD i false = true ↔ A i)) := hv
  have HREC : Hid (∀ i, i ≤ n → ((unV n 10 A) i ↔ i = n ∨ A i ∧ unV n 10 A (i + 1))) := fun i hi => by
    exact glo_rec hi
  clear hA hv
  generalize (unV n 10 A) = V at *
  have e1 : (n : Int) + 1 - 1 = (n : Int) := by omega
  go_enter Tryz.func96, Tryz.ntmps96
  go_wp2
  clear hmk
  go_loopw [7] (fun i wr => ∃ k : Nat, k ≤ n + 1 ∧ i = .int .i64 ((k : Int) - 1) ∧ (∃ bs, Hid (ValAt wr w.heap.size bs) ∧ Hid (FillB n V k bs)) ∧ Hid (Below w.heap.size w wr)) (fun i _ => (intOf i + 1).toNat)
  case atStart => exact ⟨n + 1, Nat.le_refl _, by rw [en, e1], ⟨List.replicate (n + 1) false, ValAt.made w _, by simp, fun i h1 h2 => absurd h1 (by omega)⟩, below_new _ _⟩
  case round =>
    obtain ⟨k1, hk1, rfl, ⟨bs, HB, HF⟩, HW⟩ := hrel
    by_cases hk0 : k1 = 0
    · subst hk0
      have hle : ¬ (0 : Int) ≤ ((0 : Nat) : Int) - 1 := by omega
      go_wp2
      go_ret
      unfold ValR
      exact ⟨_, bs, rfl, HB.out, HF.out.len, fun i hi => HF.out.done i (Nat.zero_le _) hi, HW.out, Nat.le_refl _⟩
    · obtain ⟨k, rfl⟩ : ∃ k, k1 = k + 1 := ⟨k1 - 1, by omega⟩
      have hkn : k ≤ n := by omega
      have em : (((k + 1 : Nat) : Int) - 1) = (k : Int) := by omega
      rw [em]
      have hle : (0 : Int) ≤ (k : Int) := by omega
      have hAr := HA.out.up HW.out
      have hi1 := fun w' => Tryz.idxB ga (n + 1) k w' (by omega)
      have hi2 := fun w' => Tryz.idxB w.heap.size (n + 1) k w' (by omega)
      have hca := hAr.cell (i := k) (by omega)
      have hcb := HB.out.cell (i := k) (by rw [HF.out.len]; omega)
      have hzb := HB.out.fz k
      have HST : Hid (∀ b : Bool, ValAt (wr.setCell ⟨w.heap.size, k, none⟩ (.bool b)) w.heap.size (bs.set k b) ∧ Below w.heap.size w (wr.setCell ⟨w.heap.size, k, none⟩ (.bool b))) := fun b => ⟨HB.out.set k b, HW.out.setCell (Nat.le_refl _) _⟩
      have HRk : Hid _ := HREC.out k hkn
      have HVk : Hid _ := HV.out k hkn
      clear em hk0 e1 en
      by_cases hc : k = n
      · subst hc
        go_wp2
        go_roundw
        case rel =>
          refine ⟨k, by omega, rfl, ⟨_, (HST.out _).1, HF.out.next hkn ?_⟩, (HST.out _).2⟩
          rw [HRk.out]
          simp
        case measure => simp [intOf] <;> omega
      · have hci : ¬ (k : Int) = (n : Int) := by omega
        have hj1 := fun w' => Tryz.idxB w.heap.size (n + 1) (k + 1) w' (by omega)
        rw [show ((k + 1 : Nat) : Int) = (k : Int) + 1 by omega] at hj1
        have hcj := HB.out.cell (i := k + 1) (by rw [HF.out.len]; omega)
        have HVj : Hid _ := HF.out.done (k + 1) (Nat.le_refl _) (by omega)
        generalize av.getD k false = q at *
        generalize bs.getD (k + 1) false = r at *
        cases q with
        | false =>
          go_wp2
          go_roundw
          case rel =>
            refine ⟨k, by omega, rfl, ⟨_, (HST.out _).1, HF.out.next hkn ?_⟩, (HST.out _).2⟩
            rw [HRk.out]
            simp [hc, hci]; intro h; have := HVk.out.2 h; cases this
          case measure => simp [intOf] <;> omega
        | true =>
          cases r with
          | false =>
            go_wp2
            go_roundw
            case rel =>
              refine ⟨k, by omega, rfl, ⟨_, (HST.out _).1, HF.out.next hkn ?_⟩, (HST.out _).2⟩
              rw [HRk.out]
              simp [hc, hci]; intro _ h; have := HVj.out.2 h; cases this
            case measure => simp [intOf] <;> omega
          | true =>
            go_wp2
            go_roundw
            case rel =>
              refine ⟨k, by omega, rfl, ⟨_, (HST.out _).1, HF.out.next hkn ?_⟩, (HST.out _).2⟩
              rw [HRk.out]
              simp [hc]; exact ⟨HVk.out.1 rfl, HVj.out.1 rfl⟩
            case measure => simp [intOf] <;> omega
end Go.Proofs.YtejekdenpefoiaaGreatDoor
namespace Go.Proofs.YtejekdenpefoiaaGreatDoor
open Go.RowKit Go.Maps
/-- Rows of bools, and rows of words below G, are as they were. -/
def KeepT (G : Nat) (w w' : World) : Prop := ∀ k c t z, w.heap[k]? = some (.cells c t z) → (t = 4 ∨ ((t = 33 ∨ t = 52) ∧ k < G)) → w'.heap[k]? = w.heap[k]?
theorem KeepT.trans {G : Nat} {a b c : World} (h : KeepT G a b) (k : KeepT G b c) : KeepT G a c := fun i x t z hc ht => by
  have e := h i x t z hc ht
  exact (k i x t z (e.trans hc) ht).trans e
theorem KeepT.of_below {G : Nat} {w w' : World} (h : Below w.heap.size w w') : KeepT G w w' := fun k _ _ _ hc _ => h.block k (Array.getElem?_eq_some_iff.1 hc).1
theorem KeepT.of_grown {G j : Nat} {w w' : World} (h : w.grownBy w' (some j)) {c0 : Array Value} {t0 : TypeId} {z0 : Nat × Nat} (hj : w.heap[j]? = some (.cells c0 t0 z0)) (h1 : t0 ≠ 4) (h2 : t0 ≠ 33) (h3 : t0 ≠ 52) : KeepT G w w' := fun k c t z hc ht =>
  h.block k (Array.getElem?_eq_some_iff.1 hc).1 fun e => by
    injection e with e
    subst e
    rw [hj] at hc
    injection hc with hc
    injection hc with _ hc _
    subst hc
    rcases ht with ht | ⟨ht | ht, _⟩
    · exact h1 ht
    · exact h2 ht
    · exact h3 ht
theorem KeepT.of_only {G : Nat} {w w' : World} (h : Only G w w') : KeepT G w w' := fun k c t z hc ht => by
  refine h.block k (Array.getElem?_eq_some_iff.1 hc).1 ?_
  rcases ht with ht | ⟨_, ht⟩
  · refine Or.inr fun c' z' e => ?_
    rw [hc] at e
    injection e with e
    injection e with _ e _
    subst ht
    exact absurd e (by decide)
  · exact Or.inl ht
theorem KeepT.mono {G G' : Nat} {w w' : World} (h : KeepT G w w') (hg : G' ≤ G) : KeepT G' w w' := fun k c t z hc ht => h k c t z hc (ht.imp id fun ⟨a, b⟩ => ⟨a, by omega⟩)
/-- A part, and what it means; its words lie from lo on, below hi. -/
def PartOk (w : World) (n b : Nat) (x : Sk) (p : Mp) (lo hi : Nat) : Prop :=
  (x.1 = true → ∃ g rs, p.2 = (some ⟨g, 0, none⟩, n + 1, n + 1) ∧ EndAt w g (n + 1) rs ∧ (∀ i, i ≤ n → ∀ k, hasW (rs i) k = true ↔ x.2.2 i k) ∧ lo ≤ g ∧ g + n + 1 < hi) ∧
  (x.1 = false → ∃ g bs, p.1 = (some ⟨g, 0, none⟩, n + 1, n + 1) ∧ ValAt w g bs ∧ bs.length = n + 1 ∧ (∀ i, i ≤ n → (bs.getD i false = true ↔ x.2.1 i)) ∧ b ≤ g)
/-- The parts on a stack, the top first. -/
def Parts (w : World) (n b : Nat) : Nat → List (Sk × Mp) → Prop
  | hi, [] => b < hi
  | hi, (x, p) :: r => ∃ lo, PartOk w n b x p lo hi ∧ lo ≤ hi ∧ Parts w n b lo r
theorem Parts.low {w : World} {n b : Nat} : ∀ {l : List (Sk × Mp)} {hi : Nat}, Parts w n b hi l → b < hi
  | [], _, h => h
  | (_, _) :: _, _, ⟨_, _, h1, h2⟩ => Nat.lt_of_lt_of_le (Parts.low h2) h1
theorem Parts.mono {w : World} {n b hi hi' : Nat} : ∀ {l : List (Sk × Mp)}, Parts w n b hi l → hi ≤ hi' → Parts w n b hi' l
  | [], h, hh => Nat.lt_of_lt_of_le h hh
  | (_, _) :: _, ⟨lo, h0, h1, h2⟩, hh => ⟨lo, ⟨fun hx => by
      obtain ⟨g, rs, a, b, c, d, e⟩ := h0.1 hx
      exact ⟨g, rs, a, b, c, d, by omega⟩, h0.2⟩, by omega, h2⟩
theorem PartOk.keep {w w' : World} {n b lo hi : Nat} {x : Sk} {p : Mp} (h : PartOk w n b x p lo hi) (hk : KeepT hi w w') : PartOk w' n b x p lo hi := by
  refine ⟨fun hx => ?_, fun hx => ?_⟩
  · obtain ⟨g, rs, a, b, c, d, e⟩ := h.1 hx
    exact ⟨g, rs, a, b.keep fun k c t z hc ht h1 h2 => hk k c t z hc (Or.inr ⟨ht, by omega⟩), c, d, e⟩
  · obtain ⟨g, bs, a, b, c⟩ := h.2 hx
    exact ⟨g, bs, a, (hk g _ _ _ b (Or.inl rfl)).trans b, c⟩
theorem Parts.keep {w w' : World} {n b : Nat} : ∀ {l : List (Sk × Mp)} {hi : Nat}, Parts w n b hi l → KeepT hi w w' → Parts w' n b hi l
  | [], _, h, _ => h
  | (_, _) :: _, _, ⟨lo, h0, h1, h2⟩, hk => ⟨lo, h0.keep hk, h1, Parts.keep h2 (hk.mono h1)⟩
/-- What work answers. -/
def WorkR (n b : Nat) (w : World) (x : Sk) (rest : List (Sk × Mp)) (e : Ending) (w' : World) : Prop :=
  ∃ p : Mp, e = .returned (.agg #[slV p.1, slV p.2]) ∧ StkAt w' b w.heap.size ((rest.map (·.2)).reverse) ∧ Parts w' n b w'.heap.size ((x, p) :: rest) ∧ Below b w w'
/-- The stack behind a call and the result's store. -/
theorem StkAt.fin {w1 w2 wf : World} {b B r : Nat} {st : List Mp} (h : StkAt w1 b B st) (hb : Below w1.heap.size w1 w2) (hg : w2.grownBy wf (some r)) (hr : B ≤ r) : StkAt wf b B st :=
  (h.up hb).keep fun k _ _ _ hc _ _ hk => hg.block k (Array.getElem?_eq_some_iff.1 hc).1 (fun e => by injection e with e; omega)
theorem keep_fin {G : Nat} {w1 w2 wf : World} {r : Nat} (hb : Below w1.heap.size w1 w2) (hg : w2.grownBy wf (some r)) {c : Array Value} {z : Nat × Nat} (hr : w1.heap[r]? = some (.cells c 70 z)) : KeepT G w1 wf :=
  (KeepT.of_below hb).trans (KeepT.of_grown hg ((hb.block r (Array.getElem?_eq_some_iff.1 hr).1).trans hr) (by decide) (by decide) (by decide))
theorem part_val {w1 w2 wf : World} {n b g lo hi r : Nat} {bs : List Bool} {x : Sk} {q : Sl} (hx : x.1 = false) (hV : ValAt w2 g bs) (hl : bs.length = n + 1) (hv : ∀ i, i ≤ n → (bs.getD i false = true ↔ x.2.1 i)) (hb : Below w1.heap.size w1 w2) (hg : w2.grownBy wf (some r)) {c : Array Value} {z : Nat × Nat} (hr : w1.heap[r]? = some (.cells c 70 z)) (hgb : b ≤ g) : PartOk wf n b x ((some ⟨g, 0, none⟩, n + 1, n + 1), q) lo hi := by
  refine ⟨fun h => (by rw [hx] at h; cases h), fun _ => ⟨g, bs, rfl, ?_, hl, hv, hgb⟩⟩
  exact (KeepT.of_grown (G := 0) hg ((hb.block r (Array.getElem?_eq_some_iff.1 hr).1).trans hr) (by decide) (by decide) (by decide) g _ _ _ hV (Or.inl rfl)).trans hV
theorem part_end {w1 w2 wf : World} {n b g lo r : Nat} {rs : Nat → List Nat} {x : Sk} {q : Sl} (hx : x.1 = true) (hE : EndAt w2 g (n + 1) rs) (hv : ∀ i, i ≤ n → ∀ k, hasW (rs i) k = true ↔ x.2.2 i k) (hlo : lo ≤ g) (hb : Below w1.heap.size w1 w2) (hg : w2.grownBy wf (some r)) {c : Array Value} {z : Nat × Nat} (hr : w1.heap[r]? = some (.cells c 70 z)) : PartOk wf n b x (q, (some ⟨g, 0, none⟩, n + 1, n + 1)) lo wf.heap.size := by
  refine ⟨fun _ => ⟨g, rs, rfl, ?_, hv, hlo, ?_⟩, fun h => (by rw [hx] at h; cases h)⟩
  · have hK := KeepT.of_grown (G := wf.heap.size) hg ((hb.block r (Array.getElem?_eq_some_iff.1 hr).1).trans hr) (by decide) (by decide) (by decide)
    exact hE.keep fun k c t z hc ht _ _ => hK k c t z hc (Or.inr ⟨ht, Nat.lt_of_lt_of_le (Array.getElem?_eq_some_iff.1 hc).1 hg.size⟩)
  · have := hE.lt
    have := hg.size
    omega
theorem grown_set2 (w : World) (r : Nat) (u v : Value) : w.grownBy ((w.setCell ⟨r, 0, none⟩ u).setCell ⟨r, 1, none⟩ v) (some r) :=
  ⟨rfl, rfl, rfl, by simp [World.setCell], fun k hk hne => (Below.heap_setCell _ _ _ _ (fun e => hne (congrArg some e))).trans (Below.heap_setCell _ _ _ _ (fun e => hne (congrArg some e)))⟩
theorem set2_cells {w : World} {r : Nat} {a0 a1 : Value} {T : TypeId} (hr : w.heap[r]? = some (.cells #[a0, a1] T (0, 0))) (u v : Value) : (w.setCell ⟨r, 0, none⟩ u).cell? ⟨r, 0, none⟩ = some u ∧ ((w.setCell ⟨r, 0, none⟩ u).setCell ⟨r, 1, none⟩ v).cell? ⟨r, 1, none⟩ = some v ∧ ((w.setCell ⟨r, 0, none⟩ u).setCell ⟨r, 1, none⟩ v).cell? ⟨r, 0, none⟩ = some u := by
  have h1 := heap_setCell_same w r 0 _ T u hr
  have h2 := heap_setCell_same _ r 1 _ T v h1
  simp [World.cell?, h1, h2]
theorem Tryz.fld0 (u v : Value) (w : World) : (Instr.field 70 (.agg #[u, v]) 0).run Tryz.prog w = .ok u w := by
  simp [Instr.field, asAgg, run_underlying Tryz.underlying70, go_sem, Result.andThen]
theorem Tryz.fld1 (u v : Value) (w : World) : (Instr.field 70 (.agg #[u, v]) 1).run Tryz.prog w = .ok v w := by
  simp [Instr.field, asAgg, run_underlying Tryz.underlying70, go_sem, Result.andThen]
/-- What work leaves behind it. -/
theorem work_below {w w3 : World} {b r : Nat} (h : Below b w w3) (hr : b ≤ r) (u v : Value) : Below b w ((w3.setCell ⟨r, 0, none⟩ u).setCell ⟨r, 1, none⟩ v) := (h.setCell hr _).setCell hr _
end Go.Proofs.YtejekdenpefoiaaGreatDoor
namespace Go.Proofs.YtejekdenpefoiaaGreatDoor
open Go.RowKit Go.Maps
set_option maxRecDepth 100000 in
set_option maxHeartbeats 1600000 in
theorem Tryz.mwork0_any (b n c hi : Nat) (d : Option Addr) (zs : List Int) (rest : List (Sk × Mp)) (w : World) (hL : LtSl w d n c zs) (hn : n ≤ 10000) (hS : StkAt w b w.heap.size ((rest.map (·.2)).reverse)) (hP : Parts w n b hi rest) (hh : hi ≤ w.heap.size) :
    Calls Tryz.prog 69 #[.pointer (some ⟨b, 0, none⟩), .agg #[.int .u8 0, .int .u8 0], .slice d n c] w (WorkR n b w (skT (zN zs) (0, 0) []) rest) := by
  have hlen : (zN zs).length = n := by rw [zN_len]; exact hL.sl.hlen
  have hw1 := below_new w (.cells #[.int .u8 0, .int .u8 0] 61)
  have hw2 := below_step hw1 (below_new (w.alloc (.cells #[.int .u8 0, .int .u8 0] 61)) (.cells #[.slice none 0 0, .slice none 0 0] 70))
  have hbox := (Below.heap_alloc (w.alloc (.cells #[.int .u8 0, .int .u8 0] 61)) (.cells #[.slice none 0 0, .slice none 0 0] 70) w.heap.size (by simp)).trans (MapKept.heap_alloc w _).1
  have hres := (MapKept.heap_alloc (w.alloc (.cells #[.int .u8 0, .int .u8 0] 61)) (.cells #[.slice none 0 0, .slice none 0 0] 70)).1
  have hsz : ((w.alloc (.cells #[.int .u8 0, .int .u8 0] 61)).alloc (.cells #[.slice none 0 0, .slice none 0 0] 70)).heap.size = w.heap.size + 2 := by simp
  rw [show (w.alloc (.cells #[.int .u8 0, .int .u8 0] 61)).heap.size = w.heap.size + 1 by simp] at hres
  clear hw1
  have hcall := fun W (h : Below w.heap.size w W) => Tryz.malone0_any n c d zs W (hL.up h) hn
  have HS : Hid _ := hS
  have HP : Hid _ := hP
  have hbB := hS.lt
  clear hS hP hL
  go_enter Tryz.func69, Tryz.ntmps69
  go_wp2_with fail
  generalize (w.alloc (.cells #[.int .u8 0, .int .u8 0] 61)).alloc (.cells #[.slice none 0 0, .slice none 0 0] 70) = w2 at *
  refine (hcall w2 hw2).mono ?_
  rintro e w3 ⟨g, bs, rfl, hV, hl, hv, hb3, hge⟩
  have Hge : Hid (b ≤ g) := by show _ ≤ _; omega
  clear hge
  have hr3 := (hb3.block (w.heap.size + 1) (by omega)).trans hres
  have c0 := cell_row hr3 0
  have c1 := cell_row hr3 1
  have z0 := frozen_of_row _ _ 0 _ _ hr3
  have z1 := frozen_of_row _ _ 1 _ _ hr3
  simp at c0 c1
  have HV : Hid (ValAt w3 g bs) := hV
  have Hl : Hid (bs.length = n + 1) := hl
  have Hv : Hid _ := hv
  have HB2 : Hid _ := hw2
  have HB3 : Hid _ := hb3
  have HR : Hid _ := hres
  have HRR : Hid _ := hr3
  have Hsz : Hid _ := hsz
  clear hcall hbox hV hl hv hw2 hb3 hres hr3 hsz
  go_wp2
  have f := set2_cells HRR.out (.slice (some ⟨g, 0, none⟩) (n + 1) (n + 1)) (.slice none 0 0)
  refine bodyPost_ret (v := .agg #[.slice (some ⟨g, 0, none⟩) (n + 1) (n + 1), .slice none 0 0]) (by simp [results, Tryz.results69, go_sem, f.1, f.2.1]) rfl ?_
  unfold WorkR
  have q1 := HB2.out.size
  have q2 := HB3.out.size
  have q3 := (grown_set2 w3 (w.heap.size + 1) (.slice (some ⟨g, 0, none⟩) (n + 1) (n + 1)) (.slice none 0 0)).size
  exact ⟨((some ⟨g, 0, none⟩, n + 1, n + 1), (none, 0, 0)), rfl, (HS.out.up HB2.out).fin HB3.out (grown_set2 ..) (by omega), ⟨hi, part_val rfl HV.out Hl.out Hv.out HB3.out (grown_set2 ..) HR.out Hge.out, by omega, (HP.out.keep (KeepT.of_below HB2.out)).keep (keep_fin HB3.out (grown_set2 ..) HR.out)⟩, work_below ((below_step HB2.out HB3.out).mono (by omega)) (by omega) _ _⟩
set_option maxRecDepth 100000 in
set_option maxHeartbeats 1600000 in
theorem Tryz.mwork1_any (b n c hi : Nat) (d : Option Addr) (zs : List Int) (rest : List (Sk × Mp)) (w : World) (hL : LtSl w d n c zs) (hn : n ≤ 10000) (hS : StkAt w b w.heap.size ((rest.map (·.2)).reverse)) (hP : Parts w n b hi rest) (hh : hi ≤ w.heap.size) :
    Calls Tryz.prog 69 #[.pointer (some ⟨b, 0, none⟩), .agg #[.int .u8 1, .int .u8 0], .slice d n c] w (WorkR n b w (skT (zN zs) (1, 0) []) rest) := by
  have hlen : (zN zs).length = n := by rw [zN_len]; exact hL.sl.hlen
  have hw1 := below_new w (.cells #[.int .u8 1, .int .u8 0] 61)
  have hw2 := below_step hw1 (below_new (w.alloc (.cells #[.int .u8 1, .int .u8 0] 61)) (.cells #[.slice none 0 0, .slice none 0 0] 70))
  have hbox := (Below.heap_alloc (w.alloc (.cells #[.int .u8 1, .int .u8 0] 61)) (.cells #[.slice none 0 0, .slice none 0 0] 70) w.heap.size (by simp)).trans (MapKept.heap_alloc w _).1
  have hres := (MapKept.heap_alloc (w.alloc (.cells #[.int .u8 1, .int .u8 0] 61)) (.cells #[.slice none 0 0, .slice none 0 0] 70)).1
  have hsz : ((w.alloc (.cells #[.int .u8 1, .int .u8 0] 61)).alloc (.cells #[.slice none 0 0, .slice none 0 0] 70)).heap.size = w.heap.size + 2 := by simp
  rw [show (w.alloc (.cells #[.int .u8 1, .int .u8 0] 61)).heap.size = w.heap.size + 1 by simp] at hres
  clear hw1
  have hcall := fun W (h : Below w.heap.size w W) => Tryz.malone1_any n c d zs W (hL.up h) hn
  have HS : Hid _ := hS
  have HP : Hid _ := hP
  have hbB := hS.lt
  clear hS hP hL
  go_enter Tryz.func69, Tryz.ntmps69
  go_wp2_with fail
  generalize (w.alloc (.cells #[.int .u8 1, .int .u8 0] 61)).alloc (.cells #[.slice none 0 0, .slice none 0 0] 70) = w2 at *
  refine (hcall w2 hw2).mono ?_
  rintro e w3 ⟨g, bs, rfl, hV, hl, hv, hb3, hge⟩
  have Hge : Hid (b ≤ g) := by show _ ≤ _; omega
  clear hge
  have hr3 := (hb3.block (w.heap.size + 1) (by omega)).trans hres
  have c0 := cell_row hr3 0
  have c1 := cell_row hr3 1
  have z0 := frozen_of_row _ _ 0 _ _ hr3
  have z1 := frozen_of_row _ _ 1 _ _ hr3
  simp at c0 c1
  have HV : Hid (ValAt w3 g bs) := hV
  have Hl : Hid (bs.length = n + 1) := hl
  have Hv : Hid _ := hv
  have HB2 : Hid _ := hw2
  have HB3 : Hid _ := hb3
  have HR : Hid _ := hres
  have HRR : Hid _ := hr3
  have Hsz : Hid _ := hsz
  clear hcall hbox hV hl hv hw2 hb3 hres hr3 hsz
  go_wp2
  have f := set2_cells HRR.out (.slice (some ⟨g, 0, none⟩) (n + 1) (n + 1)) (.slice none 0 0)
  refine bodyPost_ret (v := .agg #[.slice (some ⟨g, 0, none⟩) (n + 1) (n + 1), .slice none 0 0]) (by simp [results, Tryz.results69, go_sem, f.1, f.2.1]) rfl ?_
  unfold WorkR
  have q1 := HB2.out.size
  have q2 := HB3.out.size
  have q3 := (grown_set2 w3 (w.heap.size + 1) (.slice (some ⟨g, 0, none⟩) (n + 1) (n + 1)) (.slice none 0 0)).size
  exact ⟨((some ⟨g, 0, none⟩, n + 1, n + 1), (none, 0, 0)), rfl, (HS.out.up HB2.out).fin HB3.out (grown_set2 ..) (by omega), ⟨hi, part_val rfl HV.out Hl.out Hv.out HB3.out (grown_set2 ..) HR.out Hge.out, by omega, (HP.out.keep (KeepT.of_below HB2.out)).keep (keep_fin HB3.out (grown_set2 ..) HR.out)⟩, work_below ((below_step HB2.out HB3.out).mono (by omega)) (by omega) _ _⟩
set_option maxRecDepth 100000 in
set_option maxHeartbeats 1600000 in
theorem Tryz.mwork2_any (b n c hi p : Nat) (d : Option Addr) (zs : List Int) (rest : List (Sk × Mp)) (w : World) (hL : LtSl w d n c zs) (hn : n ≤ 10000) (hp : p ≤ 7) (hS : StkAt w b w.heap.size ((rest.map (·.2)).reverse)) (hP : Parts w n b hi rest) (hh : hi ≤ w.heap.size) :
    Calls Tryz.prog 69 #[.pointer (some ⟨b, 0, none⟩), .agg #[.int .u8 2, .int .u8 (p : Int)], .slice d n c] w (WorkR n b w (skT (zN zs) (2, p) []) rest) := by
  have hlen : (zN zs).length = n := by rw [zN_len]; exact hL.sl.hlen
  have hw1 := below_new w (.cells #[.int .u8 2, .int .u8 (p : Int)] 61)
  have hw2 := below_step hw1 (below_new (w.alloc (.cells #[.int .u8 2, .int .u8 (p : Int)] 61)) (.cells #[.slice none 0 0, .slice none 0 0] 70))
  have hbox := (Below.heap_alloc (w.alloc (.cells #[.int .u8 2, .int .u8 (p : Int)] 61)) (.cells #[.slice none 0 0, .slice none 0 0] 70) w.heap.size (by simp)).trans (MapKept.heap_alloc w _).1
  have hres := (MapKept.heap_alloc (w.alloc (.cells #[.int .u8 2, .int .u8 (p : Int)] 61)) (.cells #[.slice none 0 0, .slice none 0 0] 70)).1
  have hsz : ((w.alloc (.cells #[.int .u8 2, .int .u8 (p : Int)] 61)).alloc (.cells #[.slice none 0 0, .slice none 0 0] 70)).heap.size = w.heap.size + 2 := by simp
  rw [show (w.alloc (.cells #[.int .u8 2, .int .u8 (p : Int)] 61)).heap.size = w.heap.size + 1 by simp] at hres
  clear hw1
  have hcall := fun W (h : Below w.heap.size w W) => Tryz.malone2_any n c p d zs W (hL.up h) hn hp
  have HS : Hid _ := hS
  have HP : Hid _ := hP
  have hbB := hS.lt
  clear hS hP hL
  go_enter Tryz.func69, Tryz.ntmps69
  go_wp2_with fail
  generalize (w.alloc (.cells #[.int .u8 2, .int .u8 (p : Int)] 61)).alloc (.cells #[.slice none 0 0, .slice none 0 0] 70) = w2 at *
  refine (hcall w2 hw2).mono ?_
  rintro e w3 ⟨g, bs, rfl, hV, hl, hv, hb3, hge⟩
  have Hge : Hid (b ≤ g) := by show _ ≤ _; omega
  clear hge
  have hr3 := (hb3.block (w.heap.size + 1) (by omega)).trans hres
  have c0 := cell_row hr3 0
  have c1 := cell_row hr3 1
  have z0 := frozen_of_row _ _ 0 _ _ hr3
  have z1 := frozen_of_row _ _ 1 _ _ hr3
  simp at c0 c1
  have HV : Hid (ValAt w3 g bs) := hV
  have Hl : Hid (bs.length = n + 1) := hl
  have Hv : Hid _ := hv
  have HB2 : Hid _ := hw2
  have HB3 : Hid _ := hb3
  have HR : Hid _ := hres
  have HRR : Hid _ := hr3
  have Hsz : Hid _ := hsz
  clear hcall hbox hV hl hv hw2 hb3 hres hr3 hsz
  go_wp2
  have f := set2_cells HRR.out (.slice (some ⟨g, 0, none⟩) (n + 1) (n + 1)) (.slice none 0 0)
  refine bodyPost_ret (v := .agg #[.slice (some ⟨g, 0, none⟩) (n + 1) (n + 1), .slice none 0 0]) (by simp [results, Tryz.results69, go_sem, f.1, f.2.1]) rfl ?_
  unfold WorkR
  have q1 := HB2.out.size
  have q2 := HB3.out.size
  have q3 := (grown_set2 w3 (w.heap.size + 1) (.slice (some ⟨g, 0, none⟩) (n + 1) (n + 1)) (.slice none 0 0)).size
  exact ⟨((some ⟨g, 0, none⟩, n + 1, n + 1), (none, 0, 0)), rfl, (HS.out.up HB2.out).fin HB3.out (grown_set2 ..) (by omega), ⟨hi, part_val rfl HV.out Hl.out Hv.out HB3.out (grown_set2 ..) HR.out Hge.out, by omega, (HP.out.keep (KeepT.of_below HB2.out)).keep (keep_fin HB3.out (grown_set2 ..) HR.out)⟩, work_below ((below_step HB2.out HB3.out).mono (by omega)) (by omega) _ _⟩
set_option maxRecDepth 100000 in
set_option maxHeartbeats 1600000 in
theorem Tryz.mwork3_any (b n c hi : Nat) (d : Option Addr) (zs : List Int) (rest : List (Sk × Mp)) (w : World) (hL : LtSl w d n c zs) (hn : n ≤ 10000) (hS : StkAt w b w.heap.size ((rest.map (·.2)).reverse)) (hP : Parts w n b hi rest) (hh : hi ≤ w.heap.size) :
    Calls Tryz.prog 69 #[.pointer (some ⟨b, 0, none⟩), .agg #[.int .u8 3, .int .u8 0], .slice d n c] w (WorkR n b w (skT (zN zs) (3, 0) []) rest) := by
  have hlen : (zN zs).length = n := by rw [zN_len]; exact hL.sl.hlen
  have hw1 := below_new w (.cells #[.int .u8 3, .int .u8 0] 61)
  have hw2 := below_step hw1 (below_new (w.alloc (.cells #[.int .u8 3, .int .u8 0] 61)) (.cells #[.slice none 0 0, .slice none 0 0] 70))
  have hbox := (Below.heap_alloc (w.alloc (.cells #[.int .u8 3, .int .u8 0] 61)) (.cells #[.slice none 0 0, .slice none 0 0] 70) w.heap.size (by simp)).trans (MapKept.heap_alloc w _).1
  have hres := (MapKept.heap_alloc (w.alloc (.cells #[.int .u8 3, .int .u8 0] 61)) (.cells #[.slice none 0 0, .slice none 0 0] 70)).1
  have hsz : ((w.alloc (.cells #[.int .u8 3, .int .u8 0] 61)).alloc (.cells #[.slice none 0 0, .slice none 0 0] 70)).heap.size = w.heap.size + 2 := by simp
  rw [show (w.alloc (.cells #[.int .u8 3, .int .u8 0] 61)).heap.size = w.heap.size + 1 by simp] at hres
  clear hw1
  have hcall := fun W (h : Below w.heap.size w W) => Tryz.malone3_any n c d zs W (hL.up h) hn
  have HS : Hid _ := hS
  have HP : Hid _ := hP
  have hbB := hS.lt
  clear hS hP hL
  go_enter Tryz.func69, Tryz.ntmps69
  go_wp2_with fail
  generalize (w.alloc (.cells #[.int .u8 3, .int .u8 0] 61)).alloc (.cells #[.slice none 0 0, .slice none 0 0] 70) = w2 at *
  refine (hcall w2 hw2).mono ?_
  rintro e w3 ⟨g, bs, rfl, hV, hl, hv, hb3, hge⟩
  have Hge : Hid (b ≤ g) := by show _ ≤ _; omega
  clear hge
  have hr3 := (hb3.block (w.heap.size + 1) (by omega)).trans hres
  have c0 := cell_row hr3 0
  have c1 := cell_row hr3 1
  have z0 := frozen_of_row _ _ 0 _ _ hr3
  have z1 := frozen_of_row _ _ 1 _ _ hr3
  simp at c0 c1
  have HV : Hid (ValAt w3 g bs) := hV
  have Hl : Hid (bs.length = n + 1) := hl
  have Hv : Hid _ := hv
  have HB2 : Hid _ := hw2
  have HB3 : Hid _ := hb3
  have HR : Hid _ := hres
  have HRR : Hid _ := hr3
  have Hsz : Hid _ := hsz
  clear hcall hbox hV hl hv hw2 hb3 hres hr3 hsz
  go_wp2
  have f := set2_cells HRR.out (.slice (some ⟨g, 0, none⟩) (n + 1) (n + 1)) (.slice none 0 0)
  refine bodyPost_ret (v := .agg #[.slice (some ⟨g, 0, none⟩) (n + 1) (n + 1), .slice none 0 0]) (by simp [results, Tryz.results69, go_sem, f.1, f.2.1]) rfl ?_
  unfold WorkR
  have q1 := HB2.out.size
  have q2 := HB3.out.size
  have q3 := (grown_set2 w3 (w.heap.size + 1) (.slice (some ⟨g, 0, none⟩) (n + 1) (n + 1)) (.slice none 0 0)).size
  exact ⟨((some ⟨g, 0, none⟩, n + 1, n + 1), (none, 0, 0)), rfl, (HS.out.up HB2.out).fin HB3.out (grown_set2 ..) (by omega), ⟨hi, part_val rfl HV.out Hl.out Hv.out HB3.out (grown_set2 ..) HR.out Hge.out, by omega, (HP.out.keep (KeepT.of_below HB2.out)).keep (keep_fin HB3.out (grown_set2 ..) HR.out)⟩, work_below ((below_step HB2.out HB3.out).mono (by omega)) (by omega) _ _⟩
set_option maxRecDepth 100000 in
set_option maxHeartbeats 1600000 in
theorem Tryz.mwork4_any (b n c hi : Nat) (d : Option Addr) (zs : List Int) (rest : List (Sk × Mp)) (w : World) (hL : LtSl w d n c zs) (hn : n ≤ 10000) (hS : StkAt w b w.heap.size ((rest.map (·.2)).reverse)) (hP : Parts w n b hi rest) (hh : hi ≤ w.heap.size) :
    Calls Tryz.prog 69 #[.pointer (some ⟨b, 0, none⟩), .agg #[.int .u8 4, .int .u8 0], .slice d n c] w (WorkR n b w (skT (zN zs) (4, 0) []) rest) := by
  have hlen : (zN zs).length = n := by rw [zN_len]; exact hL.sl.hlen
  have hw1 := below_new w (.cells #[.int .u8 4, .int .u8 0] 61)
  have hw2 := below_step hw1 (below_new (w.alloc (.cells #[.int .u8 4, .int .u8 0] 61)) (.cells #[.slice none 0 0, .slice none 0 0] 70))
  have hbox := (Below.heap_alloc (w.alloc (.cells #[.int .u8 4, .int .u8 0] 61)) (.cells #[.slice none 0 0, .slice none 0 0] 70) w.heap.size (by simp)).trans (MapKept.heap_alloc w _).1
  have hres := (MapKept.heap_alloc (w.alloc (.cells #[.int .u8 4, .int .u8 0] 61)) (.cells #[.slice none 0 0, .slice none 0 0] 70)).1
  have hsz : ((w.alloc (.cells #[.int .u8 4, .int .u8 0] 61)).alloc (.cells #[.slice none 0 0, .slice none 0 0] 70)).heap.size = w.heap.size + 2 := by simp
  rw [show (w.alloc (.cells #[.int .u8 4, .int .u8 0] 61)).heap.size = w.heap.size + 1 by simp] at hres
  clear hw1
  have hcall := fun W (h : Below w.heap.size w W) => Tryz.malone4_any n c d zs W (hL.up h) hn
  have HS : Hid _ := hS
  have HP : Hid _ := hP
  have hbB := hS.lt
  clear hS hP hL
  go_enter Tryz.func69, Tryz.ntmps69
  go_wp2_with fail
  generalize (w.alloc (.cells #[.int .u8 4, .int .u8 0] 61)).alloc (.cells #[.slice none 0 0, .slice none 0 0] 70) = w2 at *
  refine (hcall w2 hw2).mono ?_
  rintro e w3 ⟨g, bs, rfl, hV, hl, hv, hb3, hge⟩
  have Hge : Hid (b ≤ g) := by show _ ≤ _; omega
  clear hge
  have hr3 := (hb3.block (w.heap.size + 1) (by omega)).trans hres
  have c0 := cell_row hr3 0
  have c1 := cell_row hr3 1
  have z0 := frozen_of_row _ _ 0 _ _ hr3
  have z1 := frozen_of_row _ _ 1 _ _ hr3
  simp at c0 c1
  have HV : Hid (ValAt w3 g bs) := hV
  have Hl : Hid (bs.length = n + 1) := hl
  have Hv : Hid _ := hv
  have HB2 : Hid _ := hw2
  have HB3 : Hid _ := hb3
  have HR : Hid _ := hres
  have HRR : Hid _ := hr3
  have Hsz : Hid _ := hsz
  clear hcall hbox hV hl hv hw2 hb3 hres hr3 hsz
  go_wp2
  have f := set2_cells HRR.out (.slice (some ⟨g, 0, none⟩) (n + 1) (n + 1)) (.slice none 0 0)
  refine bodyPost_ret (v := .agg #[.slice (some ⟨g, 0, none⟩) (n + 1) (n + 1), .slice none 0 0]) (by simp [results, Tryz.results69, go_sem, f.1, f.2.1]) rfl ?_
  unfold WorkR
  have q1 := HB2.out.size
  have q2 := HB3.out.size
  have q3 := (grown_set2 w3 (w.heap.size + 1) (.slice (some ⟨g, 0, none⟩) (n + 1) (n + 1)) (.slice none 0 0)).size
  exact ⟨((some ⟨g, 0, none⟩, n + 1, n + 1), (none, 0, 0)), rfl, (HS.out.up HB2.out).fin HB3.out (grown_set2 ..) (by omega), ⟨hi, part_val rfl HV.out Hl.out Hv.out HB3.out (grown_set2 ..) HR.out Hge.out, by omega, (HP.out.keep (KeepT.of_below HB2.out)).keep (keep_fin HB3.out (grown_set2 ..) HR.out)⟩, work_below ((below_step HB2.out HB3.out).mono (by omega)) (by omega) _ _⟩
set_option maxRecDepth 100000 in
set_option maxHeartbeats 1600000 in
theorem Tryz.mwork5_any (b n c hi : Nat) (d : Option Addr) (zs : List Int) (rest : List (Sk × Mp)) (w : World) (hL : LtSl w d n c zs) (hn : n ≤ 10000) (hS : StkAt w b w.heap.size ((rest.map (·.2)).reverse)) (hP : Parts w n b hi rest) (hh : hi ≤ w.heap.size) :
    Calls Tryz.prog 69 #[.pointer (some ⟨b, 0, none⟩), .agg #[.int .u8 5, .int .u8 0], .slice d n c] w (WorkR n b w (skT (zN zs) (5, 0) []) rest) := by
  have hlen : (zN zs).length = n := by rw [zN_len]; exact hL.sl.hlen
  have hw1 := below_new w (.cells #[.int .u8 5, .int .u8 0] 61)
  have hw2 := below_step hw1 (below_new (w.alloc (.cells #[.int .u8 5, .int .u8 0] 61)) (.cells #[.slice none 0 0, .slice none 0 0] 70))
  have hbox := (Below.heap_alloc (w.alloc (.cells #[.int .u8 5, .int .u8 0] 61)) (.cells #[.slice none 0 0, .slice none 0 0] 70) w.heap.size (by simp)).trans (MapKept.heap_alloc w _).1
  have hres := (MapKept.heap_alloc (w.alloc (.cells #[.int .u8 5, .int .u8 0] 61)) (.cells #[.slice none 0 0, .slice none 0 0] 70)).1
  have hsz : ((w.alloc (.cells #[.int .u8 5, .int .u8 0] 61)).alloc (.cells #[.slice none 0 0, .slice none 0 0] 70)).heap.size = w.heap.size + 2 := by simp
  rw [show (w.alloc (.cells #[.int .u8 5, .int .u8 0] 61)).heap.size = w.heap.size + 1 by simp] at hres
  clear hw1
  have hcall := fun W (h : Below w.heap.size w W) => Tryz.malone5_any n c d zs W (hL.up h) hn
  have HS : Hid _ := hS
  have HP : Hid _ := hP
  have hbB := hS.lt
  clear hS hP hL
  go_enter Tryz.func69, Tryz.ntmps69
  go_wp2_with fail
  generalize (w.alloc (.cells #[.int .u8 5, .int .u8 0] 61)).alloc (.cells #[.slice none 0 0, .slice none 0 0] 70) = w2 at *
  refine (hcall w2 hw2).mono ?_
  rintro e w3 ⟨g, bs, rfl, hV, hl, hv, hb3, hge⟩
  have Hge : Hid (b ≤ g) := by show _ ≤ _; omega
  clear hge
  have hr3 := (hb3.block (w.heap.size + 1) (by omega)).trans hres
  have c0 := cell_row hr3 0
  have c1 := cell_row hr3 1
  have z0 := frozen_of_row _ _ 0 _ _ hr3
  have z1 := frozen_of_row _ _ 1 _ _ hr3
  simp at c0 c1
  have HV : Hid (ValAt w3 g bs) := hV
  have Hl : Hid (bs.length = n + 1) := hl
  have Hv : Hid _ := hv
  have HB2 : Hid _ := hw2
  have HB3 : Hid _ := hb3
  have HR : Hid _ := hres
  have HRR : Hid _ := hr3
  have Hsz : Hid _ := hsz
  clear hcall hbox hV hl hv hw2 hb3 hres hr3 hsz
  go_wp2
  have f := set2_cells HRR.out (.slice (some ⟨g, 0, none⟩) (n + 1) (n + 1)) (.slice none 0 0)
  refine bodyPost_ret (v := .agg #[.slice (some ⟨g, 0, none⟩) (n + 1) (n + 1), .slice none 0 0]) (by simp [results, Tryz.results69, go_sem, f.1, f.2.1]) rfl ?_
  unfold WorkR
  have q1 := HB2.out.size
  have q2 := HB3.out.size
  have q3 := (grown_set2 w3 (w.heap.size + 1) (.slice (some ⟨g, 0, none⟩) (n + 1) (n + 1)) (.slice none 0 0)).size
  exact ⟨((some ⟨g, 0, none⟩, n + 1, n + 1), (none, 0, 0)), rfl, (HS.out.up HB2.out).fin HB3.out (grown_set2 ..) (by omega), ⟨hi, part_val rfl HV.out Hl.out Hv.out HB3.out (grown_set2 ..) HR.out Hge.out, by omega, (HP.out.keep (KeepT.of_below HB2.out)).keep (keep_fin HB3.out (grown_set2 ..) HR.out)⟩, work_below ((below_step HB2.out HB3.out).mono (by omega)) (by omega) _ _⟩
end Go.Proofs.YtejekdenpefoiaaGreatDoor
namespace Go.Proofs.YtejekdenpefoiaaGreatDoor
open Go.RowKit Go.Maps
set_option maxRecDepth 100000 in
set_option maxHeartbeats 3200000 in
theorem Tryz.mwork6_any (b n c hi : Nat) (d : Option Addr) (zs : List Int) (x : Sk) (px : Mp) (rest : List (Sk × Mp)) (w : World) (hL : LtSl w d n c zs) (hn : n ≤ 10000) (hS : StkAt w b w.heap.size ((((x, px) :: rest).map (·.2)).reverse)) (hP : Parts w n b hi ((x, px) :: rest)) (hh : hi ≤ w.heap.size) (hx : x.1 = false) (hr : rest.length ≤ 1000000) :
    Calls Tryz.prog 69 #[.pointer (some ⟨b, 0, none⟩), .agg #[.int .u8 6, .int .u8 0], .slice d n c] w (WorkR n b w (skT (zN zs) (6, 0) [x]) rest) := by
  have hlen : (zN zs).length = n := by rw [zN_len]; exact hL.sl.hlen
  obtain ⟨lo, hpx, hlo, hPr⟩ := hP
  obtain ⟨p1, p2⟩ := px
  rw [List.map_cons, List.reverse_cons] at hS
  dsimp only at hS
  obtain ⟨ga, av, hp1, hVa, hla, hva, _⟩ := hpx.2 hx
  dsimp only at hp1
  subst hp1
  have hw1 := below_new w (.cells #[.int .u8 6, .int .u8 0] 61)
  have hw2 := below_step hw1 (below_new (w.alloc (.cells #[.int .u8 6, .int .u8 0] 61)) (.cells #[.slice none 0 0, .slice none 0 0] 70))
  have hbox := (Below.heap_alloc (w.alloc (.cells #[.int .u8 6, .int .u8 0] 61)) (.cells #[.slice none 0 0, .slice none 0 0] 70) w.heap.size (by simp)).trans (MapKept.heap_alloc w _).1
  have hres := (MapKept.heap_alloc (w.alloc (.cells #[.int .u8 6, .int .u8 0] 61)) (.cells #[.slice none 0 0, .slice none 0 0] 70)).1
  have hsz : ((w.alloc (.cells #[.int .u8 6, .int .u8 0] 61)).alloc (.cells #[.slice none 0 0, .slice none 0 0] 70)).heap.size = w.heap.size + 2 := by simp
  rw [show (w.alloc (.cells #[.int .u8 6, .int .u8 0] 61)).heap.size = w.heap.size + 1 by simp] at hres
  clear hw1
  have HSEM : Hid (∀ i, unV n 6 x.2.1 i ↔ (skT (zN zs) (6, 0) [x]).2.1 i) := fun i => by
    show _ ↔ unV (zN zs).length 6 x.2.1 i
    rw [hlen]
  have HTY : Hid ((skT (zN zs) (6, 0) [x]).1 = false) := rfl
  generalize skT (zN zs) (6, 0) [x] = X at *
  have hone := fun W (h : ValAt W ga av) => Tryz.mone6_any n ga av x.2.1 W h hla hva hn
  generalize unV n 6 x.2.1 = VV at *
  have hbB := hS.lt
  have HPR : Hid (Parts w n b lo rest) := hPr
  have HVA : Hid (ValAt w ga av) := hVa
  have HS : Hid _ := hS
  clear hS hPr hVa hva hla hL hpx hlen
  go_enter Tryz.func69, Tryz.ntmps69
  go_wp2
  generalize (w.alloc (.cells #[.int .u8 6, .int .u8 0] 61)).alloc (.cells #[.slice none 0 0, .slice none 0 0] 70) = w2 at *
  have hS2 := HS.out.up hw2
  have htk := Tryz.mtake_any b w.heap.size _ _ w2.drew (hS2.up (Below.refl _ _).drew) (by simpa using hr)
  unfold slV at htk
  dsimp only at htk
  have hk0 := cell_row hbox 0
  simp at hk0
  have hfd := Tryz.fld0 (.slice (some ⟨ga, 0, none⟩) (n + 1) (n + 1)) (.slice p2.1 p2.2.1 p2.2.2)
  have hkS : ∀ W : World, W.cell? ⟨w.heap.size, 0, none⟩ = some (.int .u8 6) → ∀ u v, ((W.setCell ⟨w.heap.size + 1, 0, none⟩ u).setCell ⟨w.heap.size + 1, 1, none⟩ v).cell? ⟨w.heap.size, 0, none⟩ = some (.int .u8 6) := fun W h u v => by
    rw [World.cell?_setCell_other _ _ _ _ (by intro e; injection e; omega), World.cell?_setCell_other _ _ _ _ (by intro e; injection e; omega)]; exact h
  have HTK : Hid (∀ w3, StkAt w3 b w.heap.size ((rest.map (·.2)).reverse) → w2.drew.grownBy w3 (some b) → w3.cell? ⟨w.heap.size, 0, none⟩ = some (.int .u8 6) ∧ ValAt w3 ga av ∧ Parts w3 n b lo rest ∧ w3.heap[w.heap.size + 1]? = some (.cells #[.slice none 0 0, .slice none 0 0] 70 (0, 0)) ∧ Below b w w3) := fun w3 h1 h2 => by
    obtain ⟨v0, hv0, _⟩ := hS2.c
    have hK : KeepT w.heap.size w w3 := (KeepT.of_below hw2).trans (KeepT.of_grown (w := w2) ⟨h2.os, h2.tape, h2.output, h2.size, h2.block⟩ hv0 (by decide) (by decide) (by decide))
    refine ⟨(cell_row ((h2.block w.heap.size (by show _ < w2.heap.size; omega) (fun e => by injection e with e; omega)).trans hbox) 0).trans (by simp), (hK _ _ _ _ HVA.out (Or.inl rfl)).trans HVA.out, HPR.out.keep (hK.mono (by omega)), (h2.block _ (by show _ < w2.heap.size; omega) (fun e => by injection e with e; omega)).trans hres, ?_⟩
    exact ((hw2.mono (by omega)).trans ⟨h2.os, h2.tape, h2.output, h2.size, fun k hk => h2.block k (by show _ < w2.heap.size; omega) (fun e => by injection e with e; omega)⟩)
  have Hsz : Hid _ := hsz
  have HB2 : Hid _ := hw2
  clear hbox hS2 hsz hw2 hres
  go_region_held3 (fun w' => w'.cell? ⟨w.heap.size, 0, none⟩ = some (.int .u8 6)) (first | exact hk0 | assumption | exact hkS _ ‹_› _ _) (first | (go_at_call 70; refine htk.mono ?_; rintro e w3 ⟨rfl, hs3, hg3⟩; obtain ⟨k3, kv3, kp3, kr3, kb3⟩ := HTK.out _ hs3 hg3; clear hg3) | (go_at_call 96; refine (hone w3 kv3).mono ?_; rintro e w4 ⟨g, bs, rfl, hV, hl, hv, hb4, hge⟩; have k4 := kept_cell k3 hb4; have hr4 := (hb4.block _ (Array.getElem?_eq_some_iff.1 kr3).1).trans kr3; have c0 := cell_row hr4 0; have c1 := cell_row hr4 1; have z0 := frozen_of_row _ _ 0 _ _ hr4; have z1 := frozen_of_row _ _ 1 _ _ hr4; simp at c0 c1))
  go_wp2
  have f := set2_cells hr4 (.slice (some ⟨g, 0, none⟩) (n + 1) (n + 1)) (.slice none 0 0)
  refine bodyPost_ret (v := .agg #[.slice (some ⟨g, 0, none⟩) (n + 1) (n + 1), .slice none 0 0]) (by simp [results, Tryz.results69, go_sem, f.1, f.2.1]) rfl ?_
  unfold WorkR
  have q1 := HB2.out.size
  have q2 := hb4.size
  have q3 := (grown_set2 w4 (w.heap.size + 1) (.slice (some ⟨g, 0, none⟩) (n + 1) (n + 1)) (.slice none 0 0)).size
  have q4 := (Array.getElem?_eq_some_iff.1 kr3).1
  exact ⟨((some ⟨g, 0, none⟩, n + 1, n + 1), (none, 0, 0)), rfl, hs3.fin hb4 (grown_set2 ..) (by omega), ⟨lo, part_val HTY.out hV hl (fun i hi => (hv i hi).trans (HSEM.out i)) hb4 (grown_set2 ..) kr3 (by omega), by omega, kp3.keep (keep_fin hb4 (grown_set2 ..) kr3)⟩, work_below (kb3.trans (hb4.mono (by omega))) (by omega) _ _⟩
set_option maxRecDepth 100000 in
set_option maxHeartbeats 3200000 in
theorem Tryz.mwork7_any (b n c hi : Nat) (d : Option Addr) (zs : List Int) (x : Sk) (px : Mp) (rest : List (Sk × Mp)) (w : World) (hL : LtSl w d n c zs) (hn : n ≤ 10000) (hS : StkAt w b w.heap.size ((((x, px) :: rest).map (·.2)).reverse)) (hP : Parts w n b hi ((x, px) :: rest)) (hh : hi ≤ w.heap.size) (hx : x.1 = false) (hr : rest.length ≤ 1000000) :
    Calls Tryz.prog 69 #[.pointer (some ⟨b, 0, none⟩), .agg #[.int .u8 7, .int .u8 0], .slice d n c] w (WorkR n b w (skT (zN zs) (7, 0) [x]) rest) := by
  have hlen : (zN zs).length = n := by rw [zN_len]; exact hL.sl.hlen
  obtain ⟨lo, hpx, hlo, hPr⟩ := hP
  obtain ⟨p1, p2⟩ := px
  rw [List.map_cons, List.reverse_cons] at hS
  dsimp only at hS
  obtain ⟨ga, av, hp1, hVa, hla, hva, _⟩ := hpx.2 hx
  dsimp only at hp1
  subst hp1
  have hw1 := below_new w (.cells #[.int .u8 7, .int .u8 0] 61)
  have hw2 := below_step hw1 (below_new (w.alloc (.cells #[.int .u8 7, .int .u8 0] 61)) (.cells #[.slice none 0 0, .slice none 0 0] 70))
  have hbox := (Below.heap_alloc (w.alloc (.cells #[.int .u8 7, .int .u8 0] 61)) (.cells #[.slice none 0 0, .slice none 0 0] 70) w.heap.size (by simp)).trans (MapKept.heap_alloc w _).1
  have hres := (MapKept.heap_alloc (w.alloc (.cells #[.int .u8 7, .int .u8 0] 61)) (.cells #[.slice none 0 0, .slice none 0 0] 70)).1
  have hsz : ((w.alloc (.cells #[.int .u8 7, .int .u8 0] 61)).alloc (.cells #[.slice none 0 0, .slice none 0 0] 70)).heap.size = w.heap.size + 2 := by simp
  rw [show (w.alloc (.cells #[.int .u8 7, .int .u8 0] 61)).heap.size = w.heap.size + 1 by simp] at hres
  clear hw1
  have HSEM : Hid (∀ i, unV n 7 x.2.1 i ↔ (skT (zN zs) (7, 0) [x]).2.1 i) := fun i => by
    show _ ↔ unV (zN zs).length 7 x.2.1 i
    rw [hlen]
  have HTY : Hid ((skT (zN zs) (7, 0) [x]).1 = false) := rfl
  generalize skT (zN zs) (7, 0) [x] = X at *
  have hone := fun W (h : ValAt W ga av) => Tryz.mone7_any n ga av x.2.1 W h hla hva hn
  generalize unV n 7 x.2.1 = VV at *
  have hbB := hS.lt
  have HPR : Hid (Parts w n b lo rest) := hPr
  have HVA : Hid (ValAt w ga av) := hVa
  have HS : Hid _ := hS
  clear hS hPr hVa hva hla hL hpx hlen
  go_enter Tryz.func69, Tryz.ntmps69
  go_wp2
  generalize (w.alloc (.cells #[.int .u8 7, .int .u8 0] 61)).alloc (.cells #[.slice none 0 0, .slice none 0 0] 70) = w2 at *
  have hS2 := HS.out.up hw2
  have htk := Tryz.mtake_any b w.heap.size _ _ w2.drew (hS2.up (Below.refl _ _).drew) (by simpa using hr)
  unfold slV at htk
  dsimp only at htk
  have hk0 := cell_row hbox 0
  simp at hk0
  have hfd := Tryz.fld0 (.slice (some ⟨ga, 0, none⟩) (n + 1) (n + 1)) (.slice p2.1 p2.2.1 p2.2.2)
  have hkS : ∀ W : World, W.cell? ⟨w.heap.size, 0, none⟩ = some (.int .u8 7) → ∀ u v, ((W.setCell ⟨w.heap.size + 1, 0, none⟩ u).setCell ⟨w.heap.size + 1, 1, none⟩ v).cell? ⟨w.heap.size, 0, none⟩ = some (.int .u8 7) := fun W h u v => by
    rw [World.cell?_setCell_other _ _ _ _ (by intro e; injection e; omega), World.cell?_setCell_other _ _ _ _ (by intro e; injection e; omega)]; exact h
  have HTK : Hid (∀ w3, StkAt w3 b w.heap.size ((rest.map (·.2)).reverse) → w2.drew.grownBy w3 (some b) → w3.cell? ⟨w.heap.size, 0, none⟩ = some (.int .u8 7) ∧ ValAt w3 ga av ∧ Parts w3 n b lo rest ∧ w3.heap[w.heap.size + 1]? = some (.cells #[.slice none 0 0, .slice none 0 0] 70 (0, 0)) ∧ Below b w w3) := fun w3 h1 h2 => by
    obtain ⟨v0, hv0, _⟩ := hS2.c
    have hK : KeepT w.heap.size w w3 := (KeepT.of_below hw2).trans (KeepT.of_grown (w := w2) ⟨h2.os, h2.tape, h2.output, h2.size, h2.block⟩ hv0 (by decide) (by decide) (by decide))
    refine ⟨(cell_row ((h2.block w.heap.size (by show _ < w2.heap.size; omega) (fun e => by injection e with e; omega)).trans hbox) 0).trans (by simp), (hK _ _ _ _ HVA.out (Or.inl rfl)).trans HVA.out, HPR.out.keep (hK.mono (by omega)), (h2.block _ (by show _ < w2.heap.size; omega) (fun e => by injection e with e; omega)).trans hres, ?_⟩
    exact ((hw2.mono (by omega)).trans ⟨h2.os, h2.tape, h2.output, h2.size, fun k hk => h2.block k (by show _ < w2.heap.size; omega) (fun e => by injection e with e; omega)⟩)
  have Hsz : Hid _ := hsz
  have HB2 : Hid _ := hw2
  clear hbox hS2 hsz hw2 hres
  go_region_held3 (fun w' => w'.cell? ⟨w.heap.size, 0, none⟩ = some (.int .u8 7)) (first | exact hk0 | assumption | exact hkS _ ‹_› _ _) (first | (go_at_call 70; refine htk.mono ?_; rintro e w3 ⟨rfl, hs3, hg3⟩; obtain ⟨k3, kv3, kp3, kr3, kb3⟩ := HTK.out _ hs3 hg3; clear hg3) | (go_at_call 96; refine (hone w3 kv3).mono ?_; rintro e w4 ⟨g, bs, rfl, hV, hl, hv, hb4, hge⟩; have k4 := kept_cell k3 hb4; have hr4 := (hb4.block _ (Array.getElem?_eq_some_iff.1 kr3).1).trans kr3; have c0 := cell_row hr4 0; have c1 := cell_row hr4 1; have z0 := frozen_of_row _ _ 0 _ _ hr4; have z1 := frozen_of_row _ _ 1 _ _ hr4; simp at c0 c1))
  go_wp2
  have f := set2_cells hr4 (.slice (some ⟨g, 0, none⟩) (n + 1) (n + 1)) (.slice none 0 0)
  refine bodyPost_ret (v := .agg #[.slice (some ⟨g, 0, none⟩) (n + 1) (n + 1), .slice none 0 0]) (by simp [results, Tryz.results69, go_sem, f.1, f.2.1]) rfl ?_
  unfold WorkR
  have q1 := HB2.out.size
  have q2 := hb4.size
  have q3 := (grown_set2 w4 (w.heap.size + 1) (.slice (some ⟨g, 0, none⟩) (n + 1) (n + 1)) (.slice none 0 0)).size
  have q4 := (Array.getElem?_eq_some_iff.1 kr3).1
  exact ⟨((some ⟨g, 0, none⟩, n + 1, n + 1), (none, 0, 0)), rfl, hs3.fin hb4 (grown_set2 ..) (by omega), ⟨lo, part_val HTY.out hV hl (fun i hi => (hv i hi).trans (HSEM.out i)) hb4 (grown_set2 ..) kr3 (by omega), by omega, kp3.keep (keep_fin hb4 (grown_set2 ..) kr3)⟩, work_below (kb3.trans (hb4.mono (by omega))) (by omega) _ _⟩
set_option maxRecDepth 100000 in
set_option maxHeartbeats 3200000 in
theorem Tryz.mwork8_any (b n c hi : Nat) (d : Option Addr) (zs : List Int) (x : Sk) (px : Mp) (rest : List (Sk × Mp)) (w : World) (hL : LtSl w d n c zs) (hn : n ≤ 10000) (hS : StkAt w b w.heap.size ((((x, px) :: rest).map (·.2)).reverse)) (hP : Parts w n b hi ((x, px) :: rest)) (hh : hi ≤ w.heap.size) (hx : x.1 = false) (hr : rest.length ≤ 1000000) :
    Calls Tryz.prog 69 #[.pointer (some ⟨b, 0, none⟩), .agg #[.int .u8 8, .int .u8 0], .slice d n c] w (WorkR n b w (skT (zN zs) (8, 0) [x]) rest) := by
  have hlen : (zN zs).length = n := by rw [zN_len]; exact hL.sl.hlen
  obtain ⟨lo, hpx, hlo, hPr⟩ := hP
  obtain ⟨p1, p2⟩ := px
  rw [List.map_cons, List.reverse_cons] at hS
  dsimp only at hS
  obtain ⟨ga, av, hp1, hVa, hla, hva, _⟩ := hpx.2 hx
  dsimp only at hp1
  subst hp1
  have hw1 := below_new w (.cells #[.int .u8 8, .int .u8 0] 61)
  have hw2 := below_step hw1 (below_new (w.alloc (.cells #[.int .u8 8, .int .u8 0] 61)) (.cells #[.slice none 0 0, .slice none 0 0] 70))
  have hbox := (Below.heap_alloc (w.alloc (.cells #[.int .u8 8, .int .u8 0] 61)) (.cells #[.slice none 0 0, .slice none 0 0] 70) w.heap.size (by simp)).trans (MapKept.heap_alloc w _).1
  have hres := (MapKept.heap_alloc (w.alloc (.cells #[.int .u8 8, .int .u8 0] 61)) (.cells #[.slice none 0 0, .slice none 0 0] 70)).1
  have hsz : ((w.alloc (.cells #[.int .u8 8, .int .u8 0] 61)).alloc (.cells #[.slice none 0 0, .slice none 0 0] 70)).heap.size = w.heap.size + 2 := by simp
  rw [show (w.alloc (.cells #[.int .u8 8, .int .u8 0] 61)).heap.size = w.heap.size + 1 by simp] at hres
  clear hw1
  have HSEM : Hid (∀ i, unV n 8 x.2.1 i ↔ (skT (zN zs) (8, 0) [x]).2.1 i) := fun i => by
    show _ ↔ unV (zN zs).length 8 x.2.1 i
    rw [hlen]
  have HTY : Hid ((skT (zN zs) (8, 0) [x]).1 = false) := rfl
  generalize skT (zN zs) (8, 0) [x] = X at *
  have hone := fun W (h : ValAt W ga av) => Tryz.mone8_any n ga av x.2.1 W h hla hva hn
  generalize unV n 8 x.2.1 = VV at *
  have hbB := hS.lt
  have HPR : Hid (Parts w n b lo rest) := hPr
  have HVA : Hid (ValAt w ga av) := hVa
  have HS : Hid _ := hS
  clear hS hPr hVa hva hla hL hpx hlen
  go_enter Tryz.func69, Tryz.ntmps69
  go_wp2
  generalize (w.alloc (.cells #[.int .u8 8, .int .u8 0] 61)).alloc (.cells #[.slice none 0 0, .slice none 0 0] 70) = w2 at *
  have hS2 := HS.out.up hw2
  have htk := Tryz.mtake_any b w.heap.size _ _ w2.drew (hS2.up (Below.refl _ _).drew) (by simpa using hr)
  unfold slV at htk
  dsimp only at htk
  have hk0 := cell_row hbox 0
  simp at hk0
  have hfd := Tryz.fld0 (.slice (some ⟨ga, 0, none⟩) (n + 1) (n + 1)) (.slice p2.1 p2.2.1 p2.2.2)
  have hkS : ∀ W : World, W.cell? ⟨w.heap.size, 0, none⟩ = some (.int .u8 8) → ∀ u v, ((W.setCell ⟨w.heap.size + 1, 0, none⟩ u).setCell ⟨w.heap.size + 1, 1, none⟩ v).cell? ⟨w.heap.size, 0, none⟩ = some (.int .u8 8) := fun W h u v => by
    rw [World.cell?_setCell_other _ _ _ _ (by intro e; injection e; omega), World.cell?_setCell_other _ _ _ _ (by intro e; injection e; omega)]; exact h
  have HTK : Hid (∀ w3, StkAt w3 b w.heap.size ((rest.map (·.2)).reverse) → w2.drew.grownBy w3 (some b) → w3.cell? ⟨w.heap.size, 0, none⟩ = some (.int .u8 8) ∧ ValAt w3 ga av ∧ Parts w3 n b lo rest ∧ w3.heap[w.heap.size + 1]? = some (.cells #[.slice none 0 0, .slice none 0 0] 70 (0, 0)) ∧ Below b w w3) := fun w3 h1 h2 => by
    obtain ⟨v0, hv0, _⟩ := hS2.c
    have hK : KeepT w.heap.size w w3 := (KeepT.of_below hw2).trans (KeepT.of_grown (w := w2) ⟨h2.os, h2.tape, h2.output, h2.size, h2.block⟩ hv0 (by decide) (by decide) (by decide))
    refine ⟨(cell_row ((h2.block w.heap.size (by show _ < w2.heap.size; omega) (fun e => by injection e with e; omega)).trans hbox) 0).trans (by simp), (hK _ _ _ _ HVA.out (Or.inl rfl)).trans HVA.out, HPR.out.keep (hK.mono (by omega)), (h2.block _ (by show _ < w2.heap.size; omega) (fun e => by injection e with e; omega)).trans hres, ?_⟩
    exact ((hw2.mono (by omega)).trans ⟨h2.os, h2.tape, h2.output, h2.size, fun k hk => h2.block k (by show _ < w2.heap.size; omega) (fun e => by injection e with e; omega)⟩)
  have Hsz : Hid _ := hsz
  have HB2 : Hid _ := hw2
  clear hbox hS2 hsz hw2 hres
  go_region_held3 (fun w' => w'.cell? ⟨w.heap.size, 0, none⟩ = some (.int .u8 8)) (first | exact hk0 | assumption | exact hkS _ ‹_› _ _) (first | (go_at_call 70; refine htk.mono ?_; rintro e w3 ⟨rfl, hs3, hg3⟩; obtain ⟨k3, kv3, kp3, kr3, kb3⟩ := HTK.out _ hs3 hg3; clear hg3) | (go_at_call 96; refine (hone w3 kv3).mono ?_; rintro e w4 ⟨g, bs, rfl, hV, hl, hv, hb4, hge⟩; have k4 := kept_cell k3 hb4; have hr4 := (hb4.block _ (Array.getElem?_eq_some_iff.1 kr3).1).trans kr3; have c0 := cell_row hr4 0; have c1 := cell_row hr4 1; have z0 := frozen_of_row _ _ 0 _ _ hr4; have z1 := frozen_of_row _ _ 1 _ _ hr4; simp at c0 c1))
  go_wp2
  have f := set2_cells hr4 (.slice (some ⟨g, 0, none⟩) (n + 1) (n + 1)) (.slice none 0 0)
  refine bodyPost_ret (v := .agg #[.slice (some ⟨g, 0, none⟩) (n + 1) (n + 1), .slice none 0 0]) (by simp [results, Tryz.results69, go_sem, f.1, f.2.1]) rfl ?_
  unfold WorkR
  have q1 := HB2.out.size
  have q2 := hb4.size
  have q3 := (grown_set2 w4 (w.heap.size + 1) (.slice (some ⟨g, 0, none⟩) (n + 1) (n + 1)) (.slice none 0 0)).size
  have q4 := (Array.getElem?_eq_some_iff.1 kr3).1
  exact ⟨((some ⟨g, 0, none⟩, n + 1, n + 1), (none, 0, 0)), rfl, hs3.fin hb4 (grown_set2 ..) (by omega), ⟨lo, part_val HTY.out hV hl (fun i hi => (hv i hi).trans (HSEM.out i)) hb4 (grown_set2 ..) kr3 (by omega), by omega, kp3.keep (keep_fin hb4 (grown_set2 ..) kr3)⟩, work_below (kb3.trans (hb4.mono (by omega))) (by omega) _ _⟩
set_option maxRecDepth 100000 in
set_option maxHeartbeats 3200000 in
theorem Tryz.mwork9_any (b n c hi : Nat) (d : Option Addr) (zs : List Int) (x : Sk) (px : Mp) (rest : List (Sk × Mp)) (w : World) (hL : LtSl w d n c zs) (hn : n ≤ 10000) (hS : StkAt w b w.heap.size ((((x, px) :: rest).map (·.2)).reverse)) (hP : Parts w n b hi ((x, px) :: rest)) (hh : hi ≤ w.heap.size) (hx : x.1 = false) (hr : rest.length ≤ 1000000) :
    Calls Tryz.prog 69 #[.pointer (some ⟨b, 0, none⟩), .agg #[.int .u8 9, .int .u8 0], .slice d n c] w (WorkR n b w (skT (zN zs) (9, 0) [x]) rest) := by
  have hlen : (zN zs).length = n := by rw [zN_len]; exact hL.sl.hlen
  obtain ⟨lo, hpx, hlo, hPr⟩ := hP
  obtain ⟨p1, p2⟩ := px
  rw [List.map_cons, List.reverse_cons] at hS
  dsimp only at hS
  obtain ⟨ga, av, hp1, hVa, hla, hva, _⟩ := hpx.2 hx
  dsimp only at hp1
  subst hp1
  have hw1 := below_new w (.cells #[.int .u8 9, .int .u8 0] 61)
  have hw2 := below_step hw1 (below_new (w.alloc (.cells #[.int .u8 9, .int .u8 0] 61)) (.cells #[.slice none 0 0, .slice none 0 0] 70))
  have hbox := (Below.heap_alloc (w.alloc (.cells #[.int .u8 9, .int .u8 0] 61)) (.cells #[.slice none 0 0, .slice none 0 0] 70) w.heap.size (by simp)).trans (MapKept.heap_alloc w _).1
  have hres := (MapKept.heap_alloc (w.alloc (.cells #[.int .u8 9, .int .u8 0] 61)) (.cells #[.slice none 0 0, .slice none 0 0] 70)).1
  have hsz : ((w.alloc (.cells #[.int .u8 9, .int .u8 0] 61)).alloc (.cells #[.slice none 0 0, .slice none 0 0] 70)).heap.size = w.heap.size + 2 := by simp
  rw [show (w.alloc (.cells #[.int .u8 9, .int .u8 0] 61)).heap.size = w.heap.size + 1 by simp] at hres
  clear hw1
  have HSEM : Hid (∀ i, unV n 9 x.2.1 i ↔ (skT (zN zs) (9, 0) [x]).2.1 i) := fun i => by
    show _ ↔ unV (zN zs).length 9 x.2.1 i
    rw [hlen]
  have HTY : Hid ((skT (zN zs) (9, 0) [x]).1 = false) := rfl
  generalize skT (zN zs) (9, 0) [x] = X at *
  have hone := fun W (h : ValAt W ga av) => Tryz.mone9_any n ga av x.2.1 W h hla hva hn
  generalize unV n 9 x.2.1 = VV at *
  have hbB := hS.lt
  have HPR : Hid (Parts w n b lo rest) := hPr
  have HVA : Hid (ValAt w ga av) := hVa
  have HS : Hid _ := hS
  clear hS hPr hVa hva hla hL hpx hlen
  go_enter Tryz.func69, Tryz.ntmps69
  go_wp2
  generalize (w.alloc (.cells #[.int .u8 9, .int .u8 0] 61)).alloc (.cells #[.slice none 0 0, .slice none 0 0] 70) = w2 at *
  have hS2 := HS.out.up hw2
  have htk := Tryz.mtake_any b w.heap.size _ _ w2.drew (hS2.up (Below.refl _ _).drew) (by simpa using hr)
  unfold slV at htk
  dsimp only at htk
  have hk0 := cell_row hbox 0
  simp at hk0
  have hfd := Tryz.fld0 (.slice (some ⟨ga, 0, none⟩) (n + 1) (n + 1)) (.slice p2.1 p2.2.1 p2.2.2)
  have hkS : ∀ W : World, W.cell? ⟨w.heap.size, 0, none⟩ = some (.int .u8 9) → ∀ u v, ((W.setCell ⟨w.heap.size + 1, 0, none⟩ u).setCell ⟨w.heap.size + 1, 1, none⟩ v).cell? ⟨w.heap.size, 0, none⟩ = some (.int .u8 9) := fun W h u v => by
    rw [World.cell?_setCell_other _ _ _ _ (by intro e; injection e; omega), World.cell?_setCell_other _ _ _ _ (by intro e; injection e; omega)]; exact h
  have HTK : Hid (∀ w3, StkAt w3 b w.heap.size ((rest.map (·.2)).reverse) → w2.drew.grownBy w3 (some b) → w3.cell? ⟨w.heap.size, 0, none⟩ = some (.int .u8 9) ∧ ValAt w3 ga av ∧ Parts w3 n b lo rest ∧ w3.heap[w.heap.size + 1]? = some (.cells #[.slice none 0 0, .slice none 0 0] 70 (0, 0)) ∧ Below b w w3) := fun w3 h1 h2 => by
    obtain ⟨v0, hv0, _⟩ := hS2.c
    have hK : KeepT w.heap.size w w3 := (KeepT.of_below hw2).trans (KeepT.of_grown (w := w2) ⟨h2.os, h2.tape, h2.output, h2.size, h2.block⟩ hv0 (by decide) (by decide) (by decide))
    refine ⟨(cell_row ((h2.block w.heap.size (by show _ < w2.heap.size; omega) (fun e => by injection e with e; omega)).trans hbox) 0).trans (by simp), (hK _ _ _ _ HVA.out (Or.inl rfl)).trans HVA.out, HPR.out.keep (hK.mono (by omega)), (h2.block _ (by show _ < w2.heap.size; omega) (fun e => by injection e with e; omega)).trans hres, ?_⟩
    exact ((hw2.mono (by omega)).trans ⟨h2.os, h2.tape, h2.output, h2.size, fun k hk => h2.block k (by show _ < w2.heap.size; omega) (fun e => by injection e with e; omega)⟩)
  have Hsz : Hid _ := hsz
  have HB2 : Hid _ := hw2
  clear hbox hS2 hsz hw2 hres
  go_region_held3 (fun w' => w'.cell? ⟨w.heap.size, 0, none⟩ = some (.int .u8 9)) (first | exact hk0 | assumption | exact hkS _ ‹_› _ _) (first | (go_at_call 70; refine htk.mono ?_; rintro e w3 ⟨rfl, hs3, hg3⟩; obtain ⟨k3, kv3, kp3, kr3, kb3⟩ := HTK.out _ hs3 hg3; clear hg3) | (go_at_call 96; refine (hone w3 kv3).mono ?_; rintro e w4 ⟨g, bs, rfl, hV, hl, hv, hb4, hge⟩; have k4 := kept_cell k3 hb4; have hr4 := (hb4.block _ (Array.getElem?_eq_some_iff.1 kr3).1).trans kr3; have c0 := cell_row hr4 0; have c1 := cell_row hr4 1; have z0 := frozen_of_row _ _ 0 _ _ hr4; have z1 := frozen_of_row _ _ 1 _ _ hr4; simp at c0 c1))
  go_wp2
  have f := set2_cells hr4 (.slice (some ⟨g, 0, none⟩) (n + 1) (n + 1)) (.slice none 0 0)
  refine bodyPost_ret (v := .agg #[.slice (some ⟨g, 0, none⟩) (n + 1) (n + 1), .slice none 0 0]) (by simp [results, Tryz.results69, go_sem, f.1, f.2.1]) rfl ?_
  unfold WorkR
  have q1 := HB2.out.size
  have q2 := hb4.size
  have q3 := (grown_set2 w4 (w.heap.size + 1) (.slice (some ⟨g, 0, none⟩) (n + 1) (n + 1)) (.slice none 0 0)).size
  have q4 := (Array.getElem?_eq_some_iff.1 kr3).1
  exact ⟨((some ⟨g, 0, none⟩, n + 1, n + 1), (none, 0, 0)), rfl, hs3.fin hb4 (grown_set2 ..) (by omega), ⟨lo, part_val HTY.out hV hl (fun i hi => (hv i hi).trans (HSEM.out i)) hb4 (grown_set2 ..) kr3 (by omega), by omega, kp3.keep (keep_fin hb4 (grown_set2 ..) kr3)⟩, work_below (kb3.trans (hb4.mono (by omega))) (by omega) _ _⟩
set_option maxRecDepth 100000 in
set_option maxHeartbeats 3200000 in
theorem Tryz.mwork10_any (b n c hi : Nat) (d : Option Addr) (zs : List Int) (x : Sk) (px : Mp) (rest : List (Sk × Mp)) (w : World) (hL : LtSl w d n c zs) (hn : n ≤ 10000) (hS : StkAt w b w.heap.size ((((x, px) :: rest).map (·.2)).reverse)) (hP : Parts w n b hi ((x, px) :: rest)) (hh : hi ≤ w.heap.size) (hx : x.1 = false) (hr : rest.length ≤ 1000000) :
    Calls Tryz.prog 69 #[.pointer (some ⟨b, 0, none⟩), .agg #[.int .u8 10, .int .u8 0], .slice d n c] w (WorkR n b w (skT (zN zs) (10, 0) [x]) rest) := by
  have hlen : (zN zs).length = n := by rw [zN_len]; exact hL.sl.hlen
  obtain ⟨lo, hpx, hlo, hPr⟩ := hP
  obtain ⟨p1, p2⟩ := px
  rw [List.map_cons, List.reverse_cons] at hS
  dsimp only at hS
  obtain ⟨ga, av, hp1, hVa, hla, hva, _⟩ := hpx.2 hx
  dsimp only at hp1
  subst hp1
  have hw1 := below_new w (.cells #[.int .u8 10, .int .u8 0] 61)
  have hw2 := below_step hw1 (below_new (w.alloc (.cells #[.int .u8 10, .int .u8 0] 61)) (.cells #[.slice none 0 0, .slice none 0 0] 70))
  have hbox := (Below.heap_alloc (w.alloc (.cells #[.int .u8 10, .int .u8 0] 61)) (.cells #[.slice none 0 0, .slice none 0 0] 70) w.heap.size (by simp)).trans (MapKept.heap_alloc w _).1
  have hres := (MapKept.heap_alloc (w.alloc (.cells #[.int .u8 10, .int .u8 0] 61)) (.cells #[.slice none 0 0, .slice none 0 0] 70)).1
  have hsz : ((w.alloc (.cells #[.int .u8 10, .int .u8 0] 61)).alloc (.cells #[.slice none 0 0, .slice none 0 0] 70)).heap.size = w.heap.size + 2 := by simp
  rw [show (w.alloc (.cells #[.int .u8 10, .int .u8 0] 61)).heap.size = w.heap.size + 1 by simp] at hres
  clear hw1
  have HSEM : Hid (∀ i, unV n 10 x.2.1 i ↔ (skT (zN zs) (10, 0) [x]).2.1 i) := fun i => by
    show _ ↔ unV (zN zs).length 10 x.2.1 i
    rw [hlen]
  have HTY : Hid ((skT (zN zs) (10, 0) [x]).1 = false) := rfl
  generalize skT (zN zs) (10, 0) [x] = X at *
  have hone := fun W (h : ValAt W ga av) => Tryz.mone10_any n ga av x.2.1 W h hla hva hn
  generalize unV n 10 x.2.1 = VV at *
  have hbB := hS.lt
  have HPR : Hid (Parts w n b lo rest) := hPr
  have HVA : Hid (ValAt w ga av) := hVa
  have HS : Hid _ := hS
  clear hS hPr hVa hva hla hL hpx hlen
  go_enter Tryz.func69, Tryz.ntmps69
  go_wp2
  generalize (w.alloc (.cells #[.int .u8 10, .int .u8 0] 61)).alloc (.cells #[.slice none 0 0, .slice none 0 0] 70) = w2 at *
  have hS2 := HS.out.up hw2
  have htk := Tryz.mtake_any b w.heap.size _ _ w2.drew (hS2.up (Below.refl _ _).drew) (by simpa using hr)
  unfold slV at htk
  dsimp only at htk
  have hk0 := cell_row hbox 0
  simp at hk0
  have hfd := Tryz.fld0 (.slice (some ⟨ga, 0, none⟩) (n + 1) (n + 1)) (.slice p2.1 p2.2.1 p2.2.2)
  have hkS : ∀ W : World, W.cell? ⟨w.heap.size, 0, none⟩ = some (.int .u8 10) → ∀ u v, ((W.setCell ⟨w.heap.size + 1, 0, none⟩ u).setCell ⟨w.heap.size + 1, 1, none⟩ v).cell? ⟨w.heap.size, 0, none⟩ = some (.int .u8 10) := fun W h u v => by
    rw [World.cell?_setCell_other _ _ _ _ (by intro e; injection e; omega), World.cell?_setCell_other _ _ _ _ (by intro e; injection e; omega)]; exact h
  have HTK : Hid (∀ w3, StkAt w3 b w.heap.size ((rest.map (·.2)).reverse) → w2.drew.grownBy w3 (some b) → w3.cell? ⟨w.heap.size, 0, none⟩ = some (.int .u8 10) ∧ ValAt w3 ga av ∧ Parts w3 n b lo rest ∧ w3.heap[w.heap.size + 1]? = some (.cells #[.slice none 0 0, .slice none 0 0] 70 (0, 0)) ∧ Below b w w3) := fun w3 h1 h2 => by
    obtain ⟨v0, hv0, _⟩ := hS2.c
    have hK : KeepT w.heap.size w w3 := (KeepT.of_below hw2).trans (KeepT.of_grown (w := w2) ⟨h2.os, h2.tape, h2.output, h2.size, h2.block⟩ hv0 (by decide) (by decide) (by decide))
    refine ⟨(cell_row ((h2.block w.heap.size (by show _ < w2.heap.size; omega) (fun e => by injection e with e; omega)).trans hbox) 0).trans (by simp), (hK _ _ _ _ HVA.out (Or.inl rfl)).trans HVA.out, HPR.out.keep (hK.mono (by omega)), (h2.block _ (by show _ < w2.heap.size; omega) (fun e => by injection e with e; omega)).trans hres, ?_⟩
    exact ((hw2.mono (by omega)).trans ⟨h2.os, h2.tape, h2.output, h2.size, fun k hk => h2.block k (by show _ < w2.heap.size; omega) (fun e => by injection e with e; omega)⟩)
  have Hsz : Hid _ := hsz
  have HB2 : Hid _ := hw2
  clear hbox hS2 hsz hw2 hres
  go_region_held3 (fun w' => w'.cell? ⟨w.heap.size, 0, none⟩ = some (.int .u8 10)) (first | exact hk0 | assumption | exact hkS _ ‹_› _ _) (first | (go_at_call 70; refine htk.mono ?_; rintro e w3 ⟨rfl, hs3, hg3⟩; obtain ⟨k3, kv3, kp3, kr3, kb3⟩ := HTK.out _ hs3 hg3; clear hg3) | (go_at_call 96; refine (hone w3 kv3).mono ?_; rintro e w4 ⟨g, bs, rfl, hV, hl, hv, hb4, hge⟩; have k4 := kept_cell k3 hb4; have hr4 := (hb4.block _ (Array.getElem?_eq_some_iff.1 kr3).1).trans kr3; have c0 := cell_row hr4 0; have c1 := cell_row hr4 1; have z0 := frozen_of_row _ _ 0 _ _ hr4; have z1 := frozen_of_row _ _ 1 _ _ hr4; simp at c0 c1))
  go_wp2
  have f := set2_cells hr4 (.slice (some ⟨g, 0, none⟩) (n + 1) (n + 1)) (.slice none 0 0)
  refine bodyPost_ret (v := .agg #[.slice (some ⟨g, 0, none⟩) (n + 1) (n + 1), .slice none 0 0]) (by simp [results, Tryz.results69, go_sem, f.1, f.2.1]) rfl ?_
  unfold WorkR
  have q1 := HB2.out.size
  have q2 := hb4.size
  have q3 := (grown_set2 w4 (w.heap.size + 1) (.slice (some ⟨g, 0, none⟩) (n + 1) (n + 1)) (.slice none 0 0)).size
  have q4 := (Array.getElem?_eq_some_iff.1 kr3).1
  exact ⟨((some ⟨g, 0, none⟩, n + 1, n + 1), (none, 0, 0)), rfl, hs3.fin hb4 (grown_set2 ..) (by omega), ⟨lo, part_val HTY.out hV hl (fun i hi => (hv i hi).trans (HSEM.out i)) hb4 (grown_set2 ..) kr3 (by omega), by omega, kp3.keep (keep_fin hb4 (grown_set2 ..) kr3)⟩, work_below (kb3.trans (hb4.mono (by omega))) (by omega) _ _⟩
end Go.Proofs.YtejekdenpefoiaaGreatDoor
namespace Go.Proofs.YtejekdenpefoiaaGreatDoor
open Go.RowKit Go.Maps
theorem unt_rec {n : Nat} {A B : Nat → Prop} {a b : Nat → Nat → Prop} (i : Nat) : binV n 15 (A, a) (B, b) i ↔ i < n ∧ (B i ∨ A i ∧ binV n 15 (A, a) (B, b) (i + 1)) := by
  simp [binV]
  constructor
  · rintro ⟨j, h1, h2, h3, h4⟩
    refine ⟨by omega, ?_⟩
    by_cases e : j = i
    · subst e; exact Or.inl h3
    · exact Or.inr ⟨h4 i (Nat.le_refl _) (by omega), j, by omega, h2, h3, fun k k1 k2 => h4 k (by omega) k2⟩
  · rintro ⟨h, h1 | ⟨h0, j, h1, h2, h3, h4⟩⟩
    · exact ⟨i, Nat.le_refl _, h, h1, fun k k1 k2 => by omega⟩
    · refine ⟨j, by omega, h2, h3, fun k k1 k2 => ?_⟩
      by_cases e : k = i
      · subst e; exact h0
      · exact h4 k (by omega) k2
theorem rel_rec {n : Nat} {A B : Nat → Prop} {a b : Nat → Nat → Prop} {i : Nat} (hi : i ≤ n) : binV n 16 (A, a) (B, b) i ↔ i = n ∨ B i ∧ (A i ∨ binV n 16 (A, a) (B, b) (i + 1)) := by
  simp [binV]
  constructor
  · intro h
    by_cases e : i = n
    · exact Or.inl e
    · refine Or.inr ⟨?_, ?_⟩
      · rcases h i (Nat.le_refl _) (by omega) with h | ⟨k, k1, k2, _⟩
        · exact h
        · omega
      · by_cases hx : A i
        · exact Or.inl hx
        · refine Or.inr fun j j1 j2 => ?_
          rcases h j (by omega) j2 with h | ⟨k, k1, k2, k3⟩
          · exact Or.inl h
          · refine Or.inr ⟨k, ?_, k2, k3⟩
            rcases Nat.lt_or_ge i k with hk | hk
            · omega
            · exact absurd (by have : k = i := by omega
                               subst this; exact k3) hx
  · rintro (rfl | ⟨h1, h2⟩) j j1 j2
    · omega
    · by_cases hj : j = i
      · subst hj; exact Or.inl h1
      · rcases h2 with h2 | h2
        · exact Or.inr ⟨i, Nat.le_refl _, by omega, h2⟩
        · rcases h2 j (by omega) j2 with h | ⟨k, k1, k2, k3⟩
          · exact Or.inl h
          · exact Or.inr ⟨k, by omega, k2, k3⟩
set_option maxRecDepth 100000 in
set_option maxHeartbeats 1600000 in
theorem Tryz.mtwo11_any (n ga gb : Nat) (av bv : List Bool) (A B : Nat → Prop) (w : World) (hA : ValAt w ga av) (hB : ValAt w gb bv) (hl : av.length = n + 1) (hl2 : bv.length = n + 1) (hv : ∀ i, i ≤ n → (av.getD i false = true ↔ A i)) (hv2 : ∀ i, i ≤ n → (bv.getD i false = true ↔ B i)) (hn : n ≤ 10000) :
    Calls Tryz.prog 104 #[.int .u8 11, .slice (some ⟨ga, 0, none⟩) (n + 1) (n + 1), .slice (some ⟨gb, 0, none⟩) (n + 1) (n + 1)] w (ValR n (binV n 11 (A, fun _ _ => False) (B, fun _ _ => False)) w) := by
  have hmk := Tryz.makeB (n + 1) (by omega)
  have en : ((n + 1 : Nat) : Int) = (n : Int) + 1 := by omega
  rw [en] at hmk
  have HA : Hid (ValAt w ga av) := hA
  have HAB : Hid (ValAt w gb bv) := hB
  have HV : Hid (∀ i, i ≤ n → (av.getD i false = true ↔ A i)) := hv
  have HVB : Hid (∀ i, i ≤ n → (bv.getD i false = true ↔ B i)) := hv2
  have HREC : Hid (∀ i, i ≤ n → ((binV n 11 (A, fun _ _ => False) (B, fun _ _ => False)) i ↔ A i ∧ B i)) := fun i hi => by
    simp [binV]
  clear hA hv hB hv2
  generalize (binV n 11 (A, fun _ _ => False) (B, fun _ _ => False)) = V at *
  have e1 : (n : Int) + 1 - 1 = (n : Int) := by omega
  go_enter Tryz.func104, Tryz.ntmps104
  go_wp2
  clear hmk
  go_loopw [9] (fun i wr => ∃ k : Nat, k ≤ n + 1 ∧ i = .int .i64 ((k : Int) - 1) ∧ (∃ bs, Hid (ValAt wr w.heap.size bs) ∧ Hid (FillB n V k bs)) ∧ Hid (Below w.heap.size w wr)) (fun i _ => (intOf i + 1).toNat)
  case atStart => exact ⟨n + 1, Nat.le_refl _, by rw [en, e1], ⟨List.replicate (n + 1) false, ValAt.made w _, by simp, fun i h1 h2 => absurd h1 (by omega)⟩, below_new _ _⟩
  case round =>
    obtain ⟨k1, hk1, rfl, ⟨bs, HB, HF⟩, HW⟩ := hrel
    by_cases hk0 : k1 = 0
    · subst hk0
      have hle : ¬ (0 : Int) ≤ ((0 : Nat) : Int) - 1 := by omega
      go_wp2
      go_ret
      unfold ValR
      exact ⟨_, bs, rfl, HB.out, HF.out.len, fun i hi => HF.out.done i (Nat.zero_le _) hi, HW.out, Nat.le_refl _⟩
    · obtain ⟨k, rfl⟩ : ∃ k, k1 = k + 1 := ⟨k1 - 1, by omega⟩
      have hkn : k ≤ n := by omega
      have em : (((k + 1 : Nat) : Int) - 1) = (k : Int) := by omega
      rw [em]
      have hle : (0 : Int) ≤ (k : Int) := by omega
      have hAr := HA.out.up HW.out
      have hBr := HAB.out.up HW.out
      have hi1 := fun w' => Tryz.idxB ga (n + 1) k w' (by omega)
      have hi3 := fun w' => Tryz.idxB gb (n + 1) k w' (by omega)
      have hi2 := fun w' => Tryz.idxB w.heap.size (n + 1) k w' (by omega)
      have hca := hAr.cell (i := k) (by omega)
      have hcc := hBr.cell (i := k) (by omega)
      have hcb := HB.out.cell (i := k) (by rw [HF.out.len]; omega)
      have hzb := HB.out.fz k
      have HST : Hid (∀ b : Bool, ValAt (wr.setCell ⟨w.heap.size, k, none⟩ (.bool b)) w.heap.size (bs.set k b) ∧ Below w.heap.size w (wr.setCell ⟨w.heap.size, k, none⟩ (.bool b))) := fun b => ⟨HB.out.set k b, HW.out.setCell (Nat.le_refl _) _⟩
      have HRk : Hid _ := HREC.out k hkn
      have HVk : Hid _ := HV.out k hkn
      have HVc : Hid _ := HVB.out k hkn
      clear em hk0 e1 en hAr hBr
      generalize av.getD k false = q at *
      generalize bv.getD k false = p at *
      cases q <;> cases p
      all_goals
        go_wp2
        go_roundw
        case rel =>
          refine ⟨k, by omega, rfl, ⟨_, (HST.out _).1, HF.out.next hkn ?_⟩, (HST.out _).2⟩
          rw [HRk.out]
          have h1 := HVk.out; have h2 := HVc.out; simp at h1 h2; simp [h1, h2]
        case measure => simp [intOf] <;> omega
set_option maxRecDepth 100000 in
set_option maxHeartbeats 1600000 in
theorem Tryz.mtwo12_any (n ga gb : Nat) (av bv : List Bool) (A B : Nat → Prop) (w : World) (hA : ValAt w ga av) (hB : ValAt w gb bv) (hl : av.length = n + 1) (hl2 : bv.length = n + 1) (hv : ∀ i, i ≤ n → (av.getD i false = true ↔ A i)) (hv2 : ∀ i, i ≤ n → (bv.getD i false = true ↔ B i)) (hn : n ≤ 10000) :
    Calls Tryz.prog 104 #[.int .u8 12, .slice (some ⟨ga, 0, none⟩) (n + 1) (n + 1), .slice (some ⟨gb, 0, none⟩) (n + 1) (n + 1)] w (ValR n (binV n 12 (A, fun _ _ => False) (B, fun _ _ => False)) w) := by
  have hmk := Tryz.makeB (n + 1) (by omega)
  have en : ((n + 1 : Nat) : Int) = (n : Int) + 1 := by omega
  rw [en] at hmk
  have HA : Hid (ValAt w ga av) := hA
  have HAB : Hid (ValAt w gb bv) := hB
  have HV : Hid (∀ i, i ≤ n → (av.getD i false = true ↔ A i)) := hv
  have HVB : Hid (∀ i, i ≤ n → (bv.getD i false = true ↔ B i)) := hv2
  have HREC : Hid (∀ i, i ≤ n → ((binV n 12 (A, fun _ _ => False) (B, fun _ _ => False)) i ↔ A i ∨ B i)) := fun i hi => by
    simp [binV]
  clear hA hv hB hv2
  generalize (binV n 12 (A, fun _ _ => False) (B, fun _ _ => False)) = V at *
  have e1 : (n : Int) + 1 - 1 = (n : Int) := by omega
  go_enter Tryz.func104, Tryz.ntmps104
  go_wp2
  clear hmk
  go_loopw [9] (fun i wr => ∃ k : Nat, k ≤ n + 1 ∧ i = .int .i64 ((k : Int) - 1) ∧ (∃ bs, Hid (ValAt wr w.heap.size bs) ∧ Hid (FillB n V k bs)) ∧ Hid (Below w.heap.size w wr)) (fun i _ => (intOf i + 1).toNat)
  case atStart => exact ⟨n + 1, Nat.le_refl _, by rw [en, e1], ⟨List.replicate (n + 1) false, ValAt.made w _, by simp, fun i h1 h2 => absurd h1 (by omega)⟩, below_new _ _⟩
  case round =>
    obtain ⟨k1, hk1, rfl, ⟨bs, HB, HF⟩, HW⟩ := hrel
    by_cases hk0 : k1 = 0
    · subst hk0
      have hle : ¬ (0 : Int) ≤ ((0 : Nat) : Int) - 1 := by omega
      go_wp2
      go_ret
      unfold ValR
      exact ⟨_, bs, rfl, HB.out, HF.out.len, fun i hi => HF.out.done i (Nat.zero_le _) hi, HW.out, Nat.le_refl _⟩
    · obtain ⟨k, rfl⟩ : ∃ k, k1 = k + 1 := ⟨k1 - 1, by omega⟩
      have hkn : k ≤ n := by omega
      have em : (((k + 1 : Nat) : Int) - 1) = (k : Int) := by omega
      rw [em]
      have hle : (0 : Int) ≤ (k : Int) := by omega
      have hAr := HA.out.up HW.out
      have hBr := HAB.out.up HW.out
      have hi1 := fun w' => Tryz.idxB ga (n + 1) k w' (by omega)
      have hi3 := fun w' => Tryz.idxB gb (n + 1) k w' (by omega)
      have hi2 := fun w' => Tryz.idxB w.heap.size (n + 1) k w' (by omega)
      have hca := hAr.cell (i := k) (by omega)
      have hcc := hBr.cell (i := k) (by omega)
      have hcb := HB.out.cell (i := k) (by rw [HF.out.len]; omega)
      have hzb := HB.out.fz k
      have HST : Hid (∀ b : Bool, ValAt (wr.setCell ⟨w.heap.size, k, none⟩ (.bool b)) w.heap.size (bs.set k b) ∧ Below w.heap.size w (wr.setCell ⟨w.heap.size, k, none⟩ (.bool b))) := fun b => ⟨HB.out.set k b, HW.out.setCell (Nat.le_refl _) _⟩
      have HRk : Hid _ := HREC.out k hkn
      have HVk : Hid _ := HV.out k hkn
      have HVc : Hid _ := HVB.out k hkn
      clear em hk0 e1 en hAr hBr
      generalize av.getD k false = q at *
      generalize bv.getD k false = p at *
      cases q <;> cases p
      all_goals
        go_wp2
        go_roundw
        case rel =>
          refine ⟨k, by omega, rfl, ⟨_, (HST.out _).1, HF.out.next hkn ?_⟩, (HST.out _).2⟩
          rw [HRk.out]
          have h1 := HVk.out; have h2 := HVc.out; simp at h1 h2; simp [h1, h2]
        case measure => simp [intOf] <;> omega
set_option maxRecDepth 100000 in
set_option maxHeartbeats 1600000 in
theorem Tryz.mtwo13_any (n ga gb : Nat) (av bv : List Bool) (A B : Nat → Prop) (w : World) (hA : ValAt w ga av) (hB : ValAt w gb bv) (hl : av.length = n + 1) (hl2 : bv.length = n + 1) (hv : ∀ i, i ≤ n → (av.getD i false = true ↔ A i)) (hv2 : ∀ i, i ≤ n → (bv.getD i false = true ↔ B i)) (hn : n ≤ 10000) :
    Calls Tryz.prog 104 #[.int .u8 13, .slice (some ⟨ga, 0, none⟩) (n + 1) (n + 1), .slice (some ⟨gb, 0, none⟩) (n + 1) (n + 1)] w (ValR n (binV n 13 (A, fun _ _ => False) (B, fun _ _ => False)) w) := by
  have hmk := Tryz.makeB (n + 1) (by omega)
  have en : ((n + 1 : Nat) : Int) = (n : Int) + 1 := by omega
  rw [en] at hmk
  have HA : Hid (ValAt w ga av) := hA
  have HAB : Hid (ValAt w gb bv) := hB
  have HV : Hid (∀ i, i ≤ n → (av.getD i false = true ↔ A i)) := hv
  have HVB : Hid (∀ i, i ≤ n → (bv.getD i false = true ↔ B i)) := hv2
  have HREC : Hid (∀ i, i ≤ n → ((binV n 13 (A, fun _ _ => False) (B, fun _ _ => False)) i ↔ ¬ A i ∨ B i)) := fun i hi => by
    simp only [binV]; simp; exact ⟨fun h => by by_cases hx : A i; exact Or.inr (h hx); exact Or.inl hx, fun h hx => by rcases h with h | h; exact absurd hx h; exact h⟩
  clear hA hv hB hv2
  generalize (binV n 13 (A, fun _ _ => False) (B, fun _ _ => False)) = V at *
  have e1 : (n : Int) + 1 - 1 = (n : Int) := by omega
  go_enter Tryz.func104, Tryz.ntmps104
  go_wp2
  clear hmk
  go_loopw [9] (fun i wr => ∃ k : Nat, k ≤ n + 1 ∧ i = .int .i64 ((k : Int) - 1) ∧ (∃ bs, Hid (ValAt wr w.heap.size bs) ∧ Hid (FillB n V k bs)) ∧ Hid (Below w.heap.size w wr)) (fun i _ => (intOf i + 1).toNat)
  case atStart => exact ⟨n + 1, Nat.le_refl _, by rw [en, e1], ⟨List.replicate (n + 1) false, ValAt.made w _, by simp, fun i h1 h2 => absurd h1 (by omega)⟩, below_new _ _⟩
  case round =>
    obtain ⟨k1, hk1, rfl, ⟨bs, HB, HF⟩, HW⟩ := hrel
    by_cases hk0 : k1 = 0
    · subst hk0
      have hle : ¬ (0 : Int) ≤ ((0 : Nat) : Int) - 1 := by omega
      go_wp2
      go_ret
      unfold ValR
      exact ⟨_, bs, rfl, HB.out, HF.out.len, fun i hi => HF.out.done i (Nat.zero_le _) hi, HW.out, Nat.le_refl _⟩
    · obtain ⟨k, rfl⟩ : ∃ k, k1 = k + 1 := ⟨k1 - 1, by omega⟩
      have hkn : k ≤ n := by omega
      have em : (((k + 1 : Nat) : Int) - 1) = (k : Int) := by omega
      rw [em]
      have hle : (0 : Int) ≤ (k : Int) := by omega
      have hAr := HA.out.up HW.out
      have hBr := HAB.out.up HW.out
      have hi1 := fun w' => Tryz.idxB ga (n + 1) k w' (by omega)
      have hi3 := fun w' => Tryz.idxB gb (n + 1) k w' (by omega)
      have hi2 := fun w' => Tryz.idxB w.heap.size (n + 1) k w' (by omega)
      have hca := hAr.cell (i := k) (by omega)
      have hcc := hBr.cell (i := k) (by omega)
      have hcb := HB.out.cell (i := k) (by rw [HF.out.len]; omega)
      have hzb := HB.out.fz k
      have HST : Hid (∀ b : Bool, ValAt (wr.setCell ⟨w.heap.size, k, none⟩ (.bool b)) w.heap.size (bs.set k b) ∧ Below w.heap.size w (wr.setCell ⟨w.heap.size, k, none⟩ (.bool b))) := fun b => ⟨HB.out.set k b, HW.out.setCell (Nat.le_refl _) _⟩
      have HRk : Hid _ := HREC.out k hkn
      have HVk : Hid _ := HV.out k hkn
      have HVc : Hid _ := HVB.out k hkn
      clear em hk0 e1 en hAr hBr
      generalize av.getD k false = q at *
      generalize bv.getD k false = p at *
      cases q <;> cases p
      all_goals
        go_wp2
        go_roundw
        case rel =>
          refine ⟨k, by omega, rfl, ⟨_, (HST.out _).1, HF.out.next hkn ?_⟩, (HST.out _).2⟩
          rw [HRk.out]
          have h1 := HVk.out; have h2 := HVc.out; simp at h1 h2; simp [h1, h2]
        case measure => simp [intOf] <;> omega
set_option maxRecDepth 100000 in
set_option maxHeartbeats 1600000 in
theorem Tryz.mtwo14_any (n ga gb : Nat) (av bv : List Bool) (A B : Nat → Prop) (w : World) (hA : ValAt w ga av) (hB : ValAt w gb bv) (hl : av.length = n + 1) (hl2 : bv.length = n + 1) (hv : ∀ i, i ≤ n → (av.getD i false = true ↔ A i)) (hv2 : ∀ i, i ≤ n → (bv.getD i false = true ↔ B i)) (hn : n ≤ 10000) :
    Calls Tryz.prog 104 #[.int .u8 14, .slice (some ⟨ga, 0, none⟩) (n + 1) (n + 1), .slice (some ⟨gb, 0, none⟩) (n + 1) (n + 1)] w (ValR n (binV n 14 (A, fun _ _ => False) (B, fun _ _ => False)) w) := by
  have hmk := Tryz.makeB (n + 1) (by omega)
  have en : ((n + 1 : Nat) : Int) = (n : Int) + 1 := by omega
  rw [en] at hmk
  have HA : Hid (ValAt w ga av) := hA
  have HAB : Hid (ValAt w gb bv) := hB
  have HV : Hid (∀ i, i ≤ n → (av.getD i false = true ↔ A i)) := hv
  have HVB : Hid (∀ i, i ≤ n → (bv.getD i false = true ↔ B i)) := hv2
  have HREC : Hid (∀ i, i ≤ n → ((binV n 14 (A, fun _ _ => False) (B, fun _ _ => False)) i ↔ (A i ↔ B i))) := fun i hi => by
    simp [binV]
  clear hA hv hB hv2
  generalize (binV n 14 (A, fun _ _ => False) (B, fun _ _ => False)) = V at *
  have e1 : (n : Int) + 1 - 1 = (n : Int) := by omega
  go_enter Tryz.func104, Tryz.ntmps104
  go_wp2
  clear hmk
  go_loopw [9] (fun i wr => ∃ k : Nat, k ≤ n + 1 ∧ i = .int .i64 ((k : Int) - 1) ∧ (∃ bs, Hid (ValAt wr w.heap.size bs) ∧ Hid (FillB n V k bs)) ∧ Hid (Below w.heap.size w wr)) (fun i _ => (intOf i + 1).toNat)
  case atStart => exact ⟨n + 1, Nat.le_refl _, by rw [en, e1], ⟨List.replicate (n + 1) false, ValAt.made w _, by simp, fun i h1 h2 => absurd h1 (by omega)⟩, below_new _ _⟩
  case round =>
    obtain ⟨k1, hk1, rfl, ⟨bs, HB, HF⟩, HW⟩ := hrel
    by_cases hk0 : k1 = 0
    · subst hk0
      have hle : ¬ (0 : Int) ≤ ((0 : Nat) : Int) - 1 := by omega
      go_wp2
      go_ret
      unfold ValR
      exact ⟨_, bs, rfl, HB.out, HF.out.len, fun i hi => HF.out.done i (Nat.zero_le _) hi, HW.out, Nat.le_refl _⟩
    · obtain ⟨k, rfl⟩ : ∃ k, k1 = k + 1 := ⟨k1 - 1, by omega⟩
      have hkn : k ≤ n := by omega
      have em : (((k + 1 : Nat) : Int) - 1) = (k : Int) := by omega
      rw [em]
      have hle : (0 : Int) ≤ (k : Int) := by omega
      have hAr := HA.out.up HW.out
      have hBr := HAB.out.up HW.out
      have hi1 := fun w' => Tryz.idxB ga (n + 1) k w' (by omega)
      have hi3 := fun w' => Tryz.idxB gb (n + 1) k w' (by omega)
      have hi2 := fun w' => Tryz.idxB w.heap.size (n + 1) k w' (by omega)
      have hca := hAr.cell (i := k) (by omega)
      have hcc := hBr.cell (i := k) (by omega)
      have hcb := HB.out.cell (i := k) (by rw [HF.out.len]; omega)
      have hzb := HB.out.fz k
      have HST : Hid (∀ b : Bool, ValAt (wr.setCell ⟨w.heap.size, k, none⟩ (.bool b)) w.heap.size (bs.set k b) ∧ Below w.heap.size w (wr.setCell ⟨w.heap.size, k, none⟩ (.bool b))) := fun b => ⟨HB.out.set k b, HW.out.setCell (Nat.le_refl _) _⟩
      have HRk : Hid _ := HREC.out k hkn
      have HVk : Hid _ := HV.out k hkn
      have HVc : Hid _ := HVB.out k hkn
      clear em hk0 e1 en hAr hBr
      generalize av.getD k false = q at *
      generalize bv.getD k false = p at *
      cases q <;> cases p
      all_goals
        go_wp2
        go_region
        go_wp2
        go_roundw
        case rel =>
          refine ⟨k, by omega, rfl, ⟨_, (HST.out _).1, HF.out.next hkn ?_⟩, Below.drew (HST.out _).2⟩
          rw [HRk.out]
          have h1 := HVk.out; have h2 := HVc.out; simp at h1 h2; simp [h1, h2]
        case measure => simp [intOf] <;> omega
set_option maxRecDepth 100000 in
set_option maxHeartbeats 1600000 in
theorem Tryz.mtwo15_any (n ga gb : Nat) (av bv : List Bool) (A B : Nat → Prop) (w : World) (hA : ValAt w ga av) (hB : ValAt w gb bv) (hl : av.length = n + 1) (hl2 : bv.length = n + 1) (hv : ∀ i, i ≤ n → (av.getD i false = true ↔ A i)) (hv2 : ∀ i, i ≤ n → (bv.getD i false = true ↔ B i)) (hn : n ≤ 10000) :
    Calls Tryz.prog 104 #[.int .u8 15, .slice (some ⟨ga, 0, none⟩) (n + 1) (n + 1), .slice (some ⟨gb, 0, none⟩) (n + 1) (n + 1)] w (ValR n (binV n 15 (A, fun _ _ => False) (B, fun _ _ => False)) w) := by
  have hmk := Tryz.makeB (n + 1) (by omega)
  have en : ((n + 1 : Nat) : Int) = (n : Int) + 1 := by omega
  rw [en] at hmk
  have HA : Hid (ValAt w ga av) := hA
  have HAB : Hid (ValAt w gb bv) := hB
  have HV : Hid (∀ i, i ≤ n → (av.getD i false = true ↔ A i)) := hv
  have HVB : Hid (∀ i, i ≤ n → (bv.getD i false = true ↔ B i)) := hv2
  have HREC : Hid (∀ i, i ≤ n → ((binV n 15 (A, fun _ _ => False) (B, fun _ _ => False)) i ↔ i < n ∧ (B i ∨ A i ∧ (binV n 15 (A, fun _ _ => False) (B, fun _ _ => False)) (i + 1)))) := fun i hi => by
    exact unt_rec i
  clear hA hv hB hv2
  generalize (binV n 15 (A, fun _ _ => False) (B, fun _ _ => False)) = V at *
  have e1 : (n : Int) + 1 - 1 = (n : Int) := by omega
  go_enter Tryz.func104, Tryz.ntmps104
  go_wp2
  clear hmk
  go_loopw [9] (fun i wr => ∃ k : Nat, k ≤ n + 1 ∧ i = .int .i64 ((k : Int) - 1) ∧ (∃ bs, Hid (ValAt wr w.heap.size bs) ∧ Hid (FillB n V k bs)) ∧ Hid (Below w.heap.size w wr)) (fun i _ => (intOf i + 1).toNat)
  case atStart => exact ⟨n + 1, Nat.le_refl _, by rw [en, e1], ⟨List.replicate (n + 1) false, ValAt.made w _, by simp, fun i h1 h2 => absurd h1 (by omega)⟩, below_new _ _⟩
  case round =>
    obtain ⟨k1, hk1, rfl, ⟨bs, HB, HF⟩, HW⟩ := hrel
    by_cases hk0 : k1 = 0
    · subst hk0
      have hle : ¬ (0 : Int) ≤ ((0 : Nat) : Int) - 1 := by omega
      go_wp2
      go_ret
      unfold ValR
      exact ⟨_, bs, rfl, HB.out, HF.out.len, fun i hi => HF.out.done i (Nat.zero_le _) hi, HW.out, Nat.le_refl _⟩
    · obtain ⟨k, rfl⟩ : ∃ k, k1 = k + 1 := ⟨k1 - 1, by omega⟩
      have hkn : k ≤ n := by omega
      have em : (((k + 1 : Nat) : Int) - 1) = (k : Int) := by omega
      rw [em]
      have hle : (0 : Int) ≤ (k : Int) := by omega
      have hAr := HA.out.up HW.out
      have hBr := HAB.out.up HW.out
      have hi1 := fun w' => Tryz.idxB ga (n + 1) k w' (by omega)
      have hi3 := fun w' => Tryz.idxB gb (n + 1) k w' (by omega)
      have hi2 := fun w' => Tryz.idxB w.heap.size (n + 1) k w' (by omega)
      have hca := hAr.cell (i := k) (by omega)
      have hcc := hBr.cell (i := k) (by omega)
      have hcb := HB.out.cell (i := k) (by rw [HF.out.len]; omega)
      have hzb := HB.out.fz k
      have HST : Hid (∀ b : Bool, ValAt (wr.setCell ⟨w.heap.size, k, none⟩ (.bool b)) w.heap.size (bs.set k b) ∧ Below w.heap.size w (wr.setCell ⟨w.heap.size, k, none⟩ (.bool b))) := fun b => ⟨HB.out.set k b, HW.out.setCell (Nat.le_refl _) _⟩
      have HRk : Hid _ := HREC.out k hkn
      have HVk : Hid _ := HV.out k hkn
      have HVc : Hid _ := HVB.out k hkn
      clear em hk0 e1 en hAr hBr
      generalize av.getD k false = q at *
      generalize bv.getD k false = p at *
      by_cases hc : k < n
      · have hci : (k : Int) < (n : Int) := by omega
        have hj1 := fun w' => Tryz.idxB w.heap.size (n + 1) (k + 1) w' (by omega)
        rw [show ((k + 1 : Nat) : Int) = (k : Int) + 1 by omega] at hj1
        have hcj := HB.out.cell (i := k + 1) (by rw [HF.out.len]; omega)
        have HVj : Hid _ := HF.out.done (k + 1) (Nat.le_refl _) (by omega)
        generalize bs.getD (k + 1) false = r at *
        cases q <;> cases p <;> cases r
        all_goals
          go_wp2
          go_roundw
          case rel =>
            refine ⟨k, by omega, rfl, ⟨_, (HST.out _).1, HF.out.next hkn ?_⟩, (HST.out _).2⟩
            rw [HRk.out]
            have h1 := HVk.out; have h2 := HVc.out; have h3 := HVj.out; simp at h1 h2 h3; simp [h1, h2, h3, hc]
          case measure => simp [intOf] <;> omega
      · have hci : ¬ (k : Int) < (n : Int) := by omega
        go_wp2
        go_roundw
        case rel =>
          refine ⟨k, by omega, rfl, ⟨_, (HST.out _).1, HF.out.next hkn ?_⟩, (HST.out _).2⟩
          rw [HRk.out]
          simp [hc]
        case measure => simp [intOf] <;> omega
set_option maxRecDepth 100000 in
set_option maxHeartbeats 1600000 in
theorem Tryz.mtwo16_any (n ga gb : Nat) (av bv : List Bool) (A B : Nat → Prop) (w : World) (hA : ValAt w ga av) (hB : ValAt w gb bv) (hl : av.length = n + 1) (hl2 : bv.length = n + 1) (hv : ∀ i, i ≤ n → (av.getD i false = true ↔ A i)) (hv2 : ∀ i, i ≤ n → (bv.getD i false = true ↔ B i)) (hn : n ≤ 10000) :
    Calls Tryz.prog 104 #[.int .u8 16, .slice (some ⟨ga, 0, none⟩) (n + 1) (n + 1), .slice (some ⟨gb, 0, none⟩) (n + 1) (n + 1)] w (ValR n (binV n 16 (A, fun _ _ => False) (B, fun _ _ => False)) w) := by
  have hmk := Tryz.makeB (n + 1) (by omega)
  have en : ((n + 1 : Nat) : Int) = (n : Int) + 1 := by omega
  rw [en] at hmk
  have HA : Hid (ValAt w ga av) := hA
  have HAB : Hid (ValAt w gb bv) := hB
  have HV : Hid (∀ i, i ≤ n → (av.getD i false = true ↔ A i)) := hv
  have HVB : Hid (∀ i, i ≤ n → (bv.getD i false = true ↔ B i)) := hv2
  have HREC : Hid (∀ i, i ≤ n → ((binV n 16 (A, fun _ _ => False) (B, fun _ _ => False)) i ↔ i = n ∨ B i ∧ (A i ∨ (binV n 16 (A, fun _ _ => False) (B, fun _ _ => False)) (i + 1)))) := fun i hi => by
    exact rel_rec hi
  clear hA hv hB hv2
  generalize (binV n 16 (A, fun _ _ => False) (B, fun _ _ => False)) = V at *
  have e1 : (n : Int) + 1 - 1 = (n : Int) := by omega
  go_enter Tryz.func104, Tryz.ntmps104
  go_wp2
  clear hmk
  go_loopw [9] (fun i wr => ∃ k : Nat, k ≤ n + 1 ∧ i = .int .i64 ((k : Int) - 1) ∧ (∃ bs, Hid (ValAt wr w.heap.size bs) ∧ Hid (FillB n V k bs)) ∧ Hid (Below w.heap.size w wr)) (fun i _ => (intOf i + 1).toNat)
  case atStart => exact ⟨n + 1, Nat.le_refl _, by rw [en, e1], ⟨List.replicate (n + 1) false, ValAt.made w _, by simp, fun i h1 h2 => absurd h1 (by omega)⟩, below_new _ _⟩
  case round =>
    obtain ⟨k1, hk1, rfl, ⟨bs, HB, HF⟩, HW⟩ := hrel
    by_cases hk0 : k1 = 0
    · subst hk0
      have hle : ¬ (0 : Int) ≤ ((0 : Nat) : Int) - 1 := by omega
      go_wp2
      go_ret
      unfold ValR
      exact ⟨_, bs, rfl, HB.out, HF.out.len, fun i hi => HF.out.done i (Nat.zero_le _) hi, HW.out, Nat.le_refl _⟩
    · obtain ⟨k, rfl⟩ : ∃ k, k1 = k + 1 := ⟨k1 - 1, by omega⟩
      have hkn : k ≤ n := by omega
      have em : (((k + 1 : Nat) : Int) - 1) = (k : Int) := by omega
      rw [em]
      have hle : (0 : Int) ≤ (k : Int) := by omega
      have hAr := HA.out.up HW.out
      have hBr := HAB.out.up HW.out
      have hi1 := fun w' => Tryz.idxB ga (n + 1) k w' (by omega)
      have hi3 := fun w' => Tryz.idxB gb (n + 1) k w' (by omega)
      have hi2 := fun w' => Tryz.idxB w.heap.size (n + 1) k w' (by omega)
      have hca := hAr.cell (i := k) (by omega)
      have hcc := hBr.cell (i := k) (by omega)
      have hcb := HB.out.cell (i := k) (by rw [HF.out.len]; omega)
      have hzb := HB.out.fz k
      have HST : Hid (∀ b : Bool, ValAt (wr.setCell ⟨w.heap.size, k, none⟩ (.bool b)) w.heap.size (bs.set k b) ∧ Below w.heap.size w (wr.setCell ⟨w.heap.size, k, none⟩ (.bool b))) := fun b => ⟨HB.out.set k b, HW.out.setCell (Nat.le_refl _) _⟩
      have HRk : Hid _ := HREC.out k hkn
      have HVk : Hid _ := HV.out k hkn
      have HVc : Hid _ := HVB.out k hkn
      clear em hk0 e1 en hAr hBr
      generalize av.getD k false = q at *
      generalize bv.getD k false = p at *
      by_cases hc : k = n
      · subst hc
        go_wp2
        go_roundw
        case rel =>
          refine ⟨k, by omega, rfl, ⟨_, (HST.out _).1, HF.out.next hkn ?_⟩, (HST.out _).2⟩
          rw [HRk.out]
          simp
        case measure => simp [intOf] <;> omega
      · have hci : ¬ (k : Int) = (n : Int) := by omega
        have hj1 := fun w' => Tryz.idxB w.heap.size (n + 1) (k + 1) w' (by omega)
        rw [show ((k + 1 : Nat) : Int) = (k : Int) + 1 by omega] at hj1
        have hcj := HB.out.cell (i := k + 1) (by rw [HF.out.len]; omega)
        have HVj : Hid _ := HF.out.done (k + 1) (Nat.le_refl _) (by omega)
        generalize bs.getD (k + 1) false = r at *
        cases q <;> cases p <;> cases r
        all_goals
          go_wp2
          go_roundw
          case rel =>
            refine ⟨k, by omega, rfl, ⟨_, (HST.out _).1, HF.out.next hkn ?_⟩, (HST.out _).2⟩
            rw [HRk.out]
            have h1 := HVk.out; have h2 := HVc.out; have h3 := HVj.out; simp at h1 h2 h3; simp [h1, h2, h3, hc, hci]
          case measure => simp [intOf] <;> omega
end Go.Proofs.YtejekdenpefoiaaGreatDoor
namespace Go.Proofs.YtejekdenpefoiaaGreatDoor
open Go.RowKit Go.Maps
theorem StkAt.only {w w' : World} {b B G : Nat} {st : List Mp} (h : StkAt w b B st) (ho : Only G w w') : StkAt w' b B st := h.keep fun k c t z hc ht _ _ =>
  ho.block k (Array.getElem?_eq_some_iff.1 hc).1 (Or.inr fun c' z' e => by
    rw [hc] at e
    injection e with e
    injection e with _ e _
    subst e
    rcases ht with ht | ht <;> exact absurd ht (by decide))
section
variable {w w6 : World} {n b lo g : Nat} {X : Sk} {rest : List (Sk × Mp)}
theorem fin_val {bs : List Bool} (hS : StkAt w6 b w.heap.size ((rest.map (·.2)).reverse)) (hP : Parts w6 n b lo rest) (hr : w6.heap[w.heap.size + 1]? = some (.cells #[.slice none 0 0, .slice none 0 0] 70 (0, 0))) (hb : Below b w w6) (hV : ValAt w6 g bs) (hl : bs.length = n + 1) (hX : X.1 = false) (hv : ∀ i, i ≤ n → (bs.getD i false = true ↔ X.2.1 i)) (hlo : lo ≤ w6.heap.size) (hgb : b ≤ g) :
    WorkR n b w X rest (.returned (.agg #[.slice (some ⟨g, 0, none⟩) (n + 1) (n + 1), .slice none 0 0])) ((w6.setCell ⟨w.heap.size + 1, 0, none⟩ (.slice (some ⟨g, 0, none⟩) (n + 1) (n + 1))).setCell ⟨w.heap.size + 1, 1, none⟩ (.slice none 0 0)) := by
  have q := (grown_set2 w6 (w.heap.size + 1) (.slice (some ⟨g, 0, none⟩) (n + 1) (n + 1)) (.slice none 0 0)).size
  have hbB := hS.lt
  exact ⟨((some ⟨g, 0, none⟩, n + 1, n + 1), (none, 0, 0)), rfl, hS.fin (Below.refl _ _) (grown_set2 ..) (by omega), ⟨lo, part_val hX hV hl hv (Below.refl _ _) (grown_set2 ..) hr hgb, by omega, hP.keep (keep_fin (Below.refl _ _) (grown_set2 ..) hr)⟩, work_below hb (by omega) _ _⟩
theorem fin_end {rs : Nat → List Nat} (hS : StkAt w6 b w.heap.size ((rest.map (·.2)).reverse)) (hP : Parts w6 n b lo rest) (hr : w6.heap[w.heap.size + 1]? = some (.cells #[.slice none 0 0, .slice none 0 0] 70 (0, 0))) (hb : Below b w w6) (hE : EndAt w6 g (n + 1) rs) (hX : X.1 = true) (hv : ∀ i, i ≤ n → ∀ k, hasW (rs i) k = true ↔ X.2.2 i k) (hlo : lo ≤ g) :
    WorkR n b w X rest (.returned (.agg #[.slice none 0 0, .slice (some ⟨g, 0, none⟩) (n + 1) (n + 1)])) ((w6.setCell ⟨w.heap.size + 1, 0, none⟩ (.slice none 0 0)).setCell ⟨w.heap.size + 1, 1, none⟩ (.slice (some ⟨g, 0, none⟩) (n + 1) (n + 1))) := by
  have q := (grown_set2 w6 (w.heap.size + 1) (.slice none 0 0) (.slice (some ⟨g, 0, none⟩) (n + 1) (n + 1))).size
  have hbB := hS.lt
  have hlt := hE.lt
  exact ⟨((none, 0, 0), (some ⟨g, 0, none⟩, n + 1, n + 1)), rfl, hS.fin (Below.refl _ _) (grown_set2 ..) (by omega), ⟨lo, part_end hX hE hv hlo (Below.refl _ _) (grown_set2 ..) hr, by omega, hP.keep (keep_fin (Below.refl _ _) (grown_set2 ..) hr)⟩, work_below hb (by omega) _ _⟩
end
section
variable {n : Nat} {t : List Nat} {x y : Sk} {rs us : Nat → List Nat} {av : List Bool}
theorem steps_congr {R S : Nat → Nat → Prop} (hI : ∀ i k, i ≤ n → S i k → i ≤ k ∧ k ≤ n) (hRS : ∀ i, i ≤ n → ∀ k, R i k ↔ S i k) : ∀ (m i k : Nat), i ≤ n → (stepsP R m i k ↔ stepsP S m i k)
  | 0, _, _, _ => Iff.rfl
  | m + 1, i, k, hi => by
    constructor
    · rintro ⟨j, h1, h2⟩
      have h1' := (hRS i hi j).1 h1
      exact ⟨j, h1', (steps_congr hI hRS m j k (hI i j hi h1').2).1 h2⟩
    · rintro ⟨j, h1, h2⟩
      exact ⟨j, (hRS i hi j).2 h1, (steps_congr hI hRS m j k (hI i j hi h1).2).2 h2⟩
theorem inR_of (hI : InW n x) (hv : ∀ i, i ≤ n → ∀ k, hasW (rs i) k = true ↔ x.2.2 i k) : InR rs (n + 1) := fun i hi k hk => by
  have := hI i k (by omega) ((hv i (by omega) k).1 hk)
  omega
theorem sem_step (hl : t.length = n) (hv : ∀ i, i ≤ n → (av.getD i false = true ↔ x.2.1 i)) (hd : ∀ i, i < n + 1 → ∀ j, hasW (rs i) j = stpF av (n + 1) i j) : ∀ i, i ≤ n → ∀ k, hasW (rs i) k = true ↔ (skT t (19, 0) [x]).2.2 i k := fun i hi k => by
  rw [hd i (by omega) k]
  show _ ↔ unY t.length 19 x.2 i k
  rw [hl]
  have := hv i hi
  unfold stpF
  generalize av.getD i false = q at this ⊢
  rw [Bool.and_eq_true, Bool.and_eq_true, this]
  simp [unY]
  constructor
  · rintro ⟨⟨h1, h2⟩, h3⟩; exact ⟨h3, h2, h1⟩
  · rintro ⟨h3, h2, h1⟩; exact ⟨⟨h1, h2⟩, h3⟩
theorem sem_test (hv : ∀ i, i ≤ n → (av.getD i false = true ↔ x.2.1 i)) (hd : ∀ i, i < n + 1 → ∀ j, hasW (rs i) j = tstF av (n + 1) i j) : ∀ i, i ≤ n → ∀ k, hasW (rs i) k = true ↔ (skT t (20, 0) [x]).2.2 i k := fun i hi k => by
  rw [hd i (by omega) k]
  show _ ↔ unY t.length 20 x.2 i k
  have := hv i hi
  unfold tstF
  generalize av.getD i false = q at this ⊢
  rw [Bool.and_eq_true, this]
  simp [unY]
  constructor
  · rintro ⟨h1, h2⟩; exact ⟨h2, h1⟩
  · rintro ⟨h1, h2⟩; exact ⟨h2, h1⟩
theorem sem_star (hI : InW n x) (hv : ∀ i, i ≤ n → ∀ k, hasW (rs i) k = true ↔ x.2.2 i k) (hd : ∀ i, i < n + 1 → ∀ k, hasW (us i) k = true ↔ ∃ m, stepsP (Rl rs) m i k) : ∀ i, i ≤ n → ∀ k, hasW (us i) k = true ↔ (skT t (23, 0) [x]).2.2 i k := fun i hi k => by
  rw [hd i (by omega) k]
  show _ ↔ unY t.length 23 x.2 i k
  simp only [unY, if_neg (show ¬ (23 = 19) by decide), if_neg (show ¬ (23 = 20) by decide)]
  constructor
  · rintro ⟨m, h⟩; exact ⟨m, (steps_congr (R := Rl rs) hI hv m i k hi).1 h⟩
  · rintro ⟨m, h⟩; exact ⟨m, (steps_congr (R := Rl rs) hI hv m i k hi).2 h⟩
theorem sem_dia (hI : InW n x) (hv : ∀ i, i ≤ n → ∀ k, hasW (rs i) k = true ↔ x.2.2 i k) (hv2 : ∀ i, i ≤ n → (av.getD i false = true ↔ y.2.1 i)) : ∀ i, i ≤ n → (someP rs av i (n + 1) ↔ (skT t (17, 0) [x, y]).2.1 i) := fun i hi => by
  show _ ↔ binV t.length 17 x.2 y.2 i
  simp [binV, someP]
  constructor
  · rintro ⟨m, h1, h2, h3⟩; exact ⟨m, (hv i hi m).1 h2, (hv2 m (by omega)).1 h3⟩
  · rintro ⟨m, h1, h2⟩
    have := hI i m hi h1
    exact ⟨m, by omega, (hv i hi m).2 h1, (hv2 m this.2).2 h2⟩
theorem sem_box (hI : InW n x) (hv : ∀ i, i ≤ n → ∀ k, hasW (rs i) k = true ↔ x.2.2 i k) (hv2 : ∀ i, i ≤ n → (av.getD i false = true ↔ y.2.1 i)) : ∀ i, i ≤ n → (everyP rs av i (n + 1) ↔ (skT t (18, 0) [x, y]).2.1 i) := fun i hi => by
  show _ ↔ binV t.length 18 x.2 y.2 i
  simp [binV, everyP]
  constructor
  · intro h k hk
    have := hI i k hi hk
    exact (hv2 k this.2).1 (h k (by omega) ((hv i hi k).2 hk))
  · intro h m hm hk; exact (hv2 m (by omega)).2 (h m ((hv i hi m).1 hk))
theorem sem_plus {W : Nat} (hI : InW n y) (hv : ∀ i, i ≤ n → ∀ k, hasW (rs i) k = true ↔ x.2.2 i k) (hv2 : ∀ i, i ≤ n → ∀ k, hasW (us i) k = true ↔ y.2.2 i k) (ho : ∀ i, i < n + 1 → OkW W (rs i)) (ho2 : ∀ i, i < n + 1 → OkW W (us i)) : ∀ i, i ≤ n → ∀ k, hasW (plusTo rs us (n + 1) i) k = true ↔ (skT t (21, 0) [x, y]).2.2 i k := fun i hi k => by
  show _ ↔ binY 21 x.2 y.2 i k
  unfold plusTo
  rw [if_pos (by omega), hasW_join (ho i (by omega)) (ho2 i (by omega)) i k (fun j hj => (hI i j hi ((hv2 i hi j).1 hj)).1), Bool.or_eq_true, hv i hi, hv2 i hi]
  simp [binY]
theorem sem_seq (hI : InW n x) (hv : ∀ i, i ≤ n → ∀ k, hasW (rs i) k = true ↔ x.2.2 i k) (hv2 : ∀ i, i ≤ n → ∀ k, hasW (us i) k = true ↔ y.2.2 i k) {xs : Nat → List Nat} (hd : ∀ i, i < n + 1 → SeqTo rs us i (n + 1) (xs i)) : ∀ i, i ≤ n → ∀ k, hasW (xs i) k = true ↔ (skT t (22, 0) [x, y]).2.2 i k := fun i hi k => by
  rw [hd i (by omega) k]
  show _ ↔ binY 22 x.2 y.2 i k
  simp [binY]
  constructor
  · rintro ⟨m, h1, h2, h3⟩; exact ⟨m, (hv i hi m).1 h2, (hv2 m (by omega) k).1 h3⟩
  · rintro ⟨m, h1, h2⟩
    have := hI i m hi h1
    exact ⟨m, by omega, (hv i hi m).2 h1, (hv2 m this.2 k).2 h2⟩
theorem sem_two {op : Nat} (hop : 11 ≤ op ∧ op ≤ 16) (hl : t.length = n) (i : Nat) : binV n op (x.2.1, fun _ _ => False) (y.2.1, fun _ _ => False) i ↔ (skT t (op, 0) [x, y]).2.1 i := by
  show _ ↔ binV t.length op x.2 y.2 i
  rw [hl]
  obtain rfl | rfl | rfl | rfl | rfl | rfl : op = 11 ∨ op = 12 ∨ op = 13 ∨ op = 14 ∨ op = 15 ∨ op = 16 := by omega
  all_goals simp [binV]
end
end Go.Proofs.YtejekdenpefoiaaGreatDoor
namespace Go.Proofs.YtejekdenpefoiaaGreatDoor
open Go.RowKit Go.Maps
set_option maxRecDepth 100000 in
set_option maxHeartbeats 3200000 in
theorem Tryz.mwork19_any (b n c hi : Nat) (d : Option Addr) (zs : List Int) (x : Sk) (px : Mp) (rest : List (Sk × Mp)) (w : World) (hL : LtSl w d n c zs) (hn : n ≤ 10000) (hS : StkAt w b w.heap.size ((((x, px) :: rest).map (·.2)).reverse)) (hP : Parts w n b hi ((x, px) :: rest)) (hh : hi ≤ w.heap.size) (hx : x.1 = false) (hr : rest.length ≤ 1000000) :
    Calls Tryz.prog 69 #[.pointer (some ⟨b, 0, none⟩), .agg #[.int .u8 19, .int .u8 0], .slice d n c] w (WorkR n b w (skT (zN zs) (19, 0) [x]) rest) := by
  have hlen : (zN zs).length = n := by rw [zN_len]; exact hL.sl.hlen
  obtain ⟨lo, hpx, hlo, hPr⟩ := hP
  obtain ⟨p1, p2⟩ := px
  rw [List.map_cons, List.reverse_cons] at hS
  dsimp only at hS
  obtain ⟨ga, av, hp1, hVa, hla, hva, _⟩ := hpx.2 hx
  dsimp only at hp1
  subst hp1
  have hw1 := below_new w (.cells #[.int .u8 19, .int .u8 0] 61)
  have hw2 := below_step hw1 (below_new (w.alloc (.cells #[.int .u8 19, .int .u8 0] 61)) (.cells #[.slice none 0 0, .slice none 0 0] 70))
  have hbox := (Below.heap_alloc (w.alloc (.cells #[.int .u8 19, .int .u8 0] 61)) (.cells #[.slice none 0 0, .slice none 0 0] 70) w.heap.size (by simp)).trans (MapKept.heap_alloc w _).1
  have hres := (MapKept.heap_alloc (w.alloc (.cells #[.int .u8 19, .int .u8 0] 61)) (.cells #[.slice none 0 0, .slice none 0 0] 70)).1
  have hsz : ((w.alloc (.cells #[.int .u8 19, .int .u8 0] 61)).alloc (.cells #[.slice none 0 0, .slice none 0 0] 70)).heap.size = w.heap.size + 2 := by simp
  rw [show (w.alloc (.cells #[.int .u8 19, .int .u8 0] 61)).heap.size = w.heap.size + 1 by simp] at hres
  clear hw1
  have HSEM : Hid (∀ rs : Nat → List Nat, (∀ i, i < n + 1 → ∀ j, hasW (rs i) j = stpF av (n + 1) i j) → ∀ i, i ≤ n → ∀ k, hasW (rs i) k = true ↔ (skT (zN zs) (19, 0) [x]).2.2 i k) := fun rs hd => sem_step hlen hva hd
  have hcall := fun W (h : ValAt W ga av) => Tryz.mstep_any ga (n + 1) av W (by omega) h hla
  have HTY : Hid ((skT (zN zs) (19, 0) [x]).1 = true) := rfl
  generalize skT (zN zs) (19, 0) [x] = X at *
  have hbB := hS.lt
  have HPR : Hid (Parts w n b lo rest) := hPr
  have HVA : Hid (ValAt w ga av) := hVa
  have HS : Hid _ := hS
  clear hS hPr hVa hva hla hL hpx hlen
  go_enter Tryz.func69, Tryz.ntmps69
  go_wp2_with fail
  generalize (w.alloc (.cells #[.int .u8 19, .int .u8 0] 61)).alloc (.cells #[.slice none 0 0, .slice none 0 0] 70) = w2 at *
  have hS2 := HS.out.up hw2
  have htk := Tryz.mtake_any b w.heap.size _ _ w2 hS2 (by simpa using hr)
  unfold slV at htk
  dsimp only at htk
  have hfd := Tryz.fld0 (.slice (some ⟨ga, 0, none⟩) (n + 1) (n + 1)) (.slice p2.1 p2.2.1 p2.2.2)
  have HTK : Hid (∀ w3, StkAt w3 b w.heap.size ((rest.map (·.2)).reverse) → w2.grownBy w3 (some b) → ValAt w3 ga av ∧ Parts w3 n b lo rest ∧ w3.heap[w.heap.size + 1]? = some (.cells #[.slice none 0 0, .slice none 0 0] 70 (0, 0)) ∧ Below b w w3) := fun w3 h1 h2 => by
    obtain ⟨v0, hv0, _⟩ := hS2.c
    have hK : KeepT w.heap.size w w3 := (KeepT.of_below hw2).trans (KeepT.of_grown (w := w2) h2 hv0 (by decide) (by decide) (by decide))
    refine ⟨(hK _ _ _ _ HVA.out (Or.inl rfl)).trans HVA.out, HPR.out.keep (hK.mono (by omega)), (h2.block _ (by omega) (fun e => by injection e with e; omega)).trans hres, ?_⟩
    exact ((hw2.mono (by omega)).trans ⟨h2.os, h2.tape, h2.output, h2.size, fun k hk => h2.block k (by omega) (fun e => by injection e with e; omega)⟩)
  have Hsz : Hid _ := hsz
  have HB2 : Hid _ := hw2
  refine htk.mono ?_
  rintro e w3 ⟨rfl, hs3, hg3⟩
  obtain ⟨kv3, kp3, kr3, kb3⟩ := HTK.out _ hs3 hg3
  have hsz3 := hg3.size
  rw [hsz] at hsz3
  have hcl := hcall w3 kv3
  have KS : Hid _ := hs3
  have KP : Hid _ := kp3
  have KR : Hid _ := kr3
  have KB : Hid _ := kb3
  clear hbox hS2 hsz hw2 hres hg3 hs3 kv3 kp3 kr3 kb3 HTK HS HPR HVA
  go_wp2_with fail
  refine hcl.mono ?_
  rintro e w4 ⟨rfl, ⟨us, hE, hd⟩, hb4⟩
  have hr4 := (hb4.block _ (Array.getElem?_eq_some_iff.1 KR.out).1).trans KR.out
  have c0 := cell_row hr4 0
  have c1 := cell_row hr4 1
  have z0 := frozen_of_row _ _ 0 _ _ hr4
  have z1 := frozen_of_row _ _ 1 _ _ hr4
  simp at c0 c1
  have HE : Hid _ := hE
  have HD : Hid _ := hd
  have HB4 : Hid _ := hb4
  have HR4 : Hid _ := hr4
  clear hE hd hb4 hr4 hcl htk hcall
  go_wp2
  have f := set2_cells HR4.out (.slice none 0 0) (.slice (some ⟨w3.heap.size, 0, none⟩) (n + 1) (n + 1))
  refine bodyPost_ret (v := .agg #[.slice none 0 0, .slice (some ⟨w3.heap.size, 0, none⟩) (n + 1) (n + 1)]) (by simp [results, Tryz.results69, go_sem, f.1, f.2.1]) rfl ?_
  exact fin_end (KS.out.up HB4.out) (KP.out.keep (KeepT.of_below HB4.out)) HR4.out (KB.out.trans (HB4.out.mono (by omega))) HE.out HTY.out (HSEM.out _ HD.out) (by omega)
set_option maxRecDepth 100000 in
set_option maxHeartbeats 3200000 in
theorem Tryz.mwork20_any (b n c hi : Nat) (d : Option Addr) (zs : List Int) (x : Sk) (px : Mp) (rest : List (Sk × Mp)) (w : World) (hL : LtSl w d n c zs) (hn : n ≤ 10000) (hS : StkAt w b w.heap.size ((((x, px) :: rest).map (·.2)).reverse)) (hP : Parts w n b hi ((x, px) :: rest)) (hh : hi ≤ w.heap.size) (hx : x.1 = false) (hr : rest.length ≤ 1000000) :
    Calls Tryz.prog 69 #[.pointer (some ⟨b, 0, none⟩), .agg #[.int .u8 20, .int .u8 0], .slice d n c] w (WorkR n b w (skT (zN zs) (20, 0) [x]) rest) := by
  have hlen : (zN zs).length = n := by rw [zN_len]; exact hL.sl.hlen
  obtain ⟨lo, hpx, hlo, hPr⟩ := hP
  obtain ⟨p1, p2⟩ := px
  rw [List.map_cons, List.reverse_cons] at hS
  dsimp only at hS
  obtain ⟨ga, av, hp1, hVa, hla, hva, _⟩ := hpx.2 hx
  dsimp only at hp1
  subst hp1
  have hw1 := below_new w (.cells #[.int .u8 20, .int .u8 0] 61)
  have hw2 := below_step hw1 (below_new (w.alloc (.cells #[.int .u8 20, .int .u8 0] 61)) (.cells #[.slice none 0 0, .slice none 0 0] 70))
  have hbox := (Below.heap_alloc (w.alloc (.cells #[.int .u8 20, .int .u8 0] 61)) (.cells #[.slice none 0 0, .slice none 0 0] 70) w.heap.size (by simp)).trans (MapKept.heap_alloc w _).1
  have hres := (MapKept.heap_alloc (w.alloc (.cells #[.int .u8 20, .int .u8 0] 61)) (.cells #[.slice none 0 0, .slice none 0 0] 70)).1
  have hsz : ((w.alloc (.cells #[.int .u8 20, .int .u8 0] 61)).alloc (.cells #[.slice none 0 0, .slice none 0 0] 70)).heap.size = w.heap.size + 2 := by simp
  rw [show (w.alloc (.cells #[.int .u8 20, .int .u8 0] 61)).heap.size = w.heap.size + 1 by simp] at hres
  clear hw1
  have HSEM : Hid (∀ rs : Nat → List Nat, (∀ i, i < n + 1 → ∀ j, hasW (rs i) j = tstF av (n + 1) i j) → ∀ i, i ≤ n → ∀ k, hasW (rs i) k = true ↔ (skT (zN zs) (20, 0) [x]).2.2 i k) := fun rs hd => sem_test hva hd
  have hcall := fun W (h : ValAt W ga av) => Tryz.mtest_any ga (n + 1) av W (by omega) h hla
  have HTY : Hid ((skT (zN zs) (20, 0) [x]).1 = true) := rfl
  generalize skT (zN zs) (20, 0) [x] = X at *
  have hbB := hS.lt
  have HPR : Hid (Parts w n b lo rest) := hPr
  have HVA : Hid (ValAt w ga av) := hVa
  have HS : Hid _ := hS
  clear hS hPr hVa hva hla hL hpx hlen
  go_enter Tryz.func69, Tryz.ntmps69
  go_wp2_with fail
  generalize (w.alloc (.cells #[.int .u8 20, .int .u8 0] 61)).alloc (.cells #[.slice none 0 0, .slice none 0 0] 70) = w2 at *
  have hS2 := HS.out.up hw2
  have htk := Tryz.mtake_any b w.heap.size _ _ w2 hS2 (by simpa using hr)
  unfold slV at htk
  dsimp only at htk
  have hfd := Tryz.fld0 (.slice (some ⟨ga, 0, none⟩) (n + 1) (n + 1)) (.slice p2.1 p2.2.1 p2.2.2)
  have HTK : Hid (∀ w3, StkAt w3 b w.heap.size ((rest.map (·.2)).reverse) → w2.grownBy w3 (some b) → ValAt w3 ga av ∧ Parts w3 n b lo rest ∧ w3.heap[w.heap.size + 1]? = some (.cells #[.slice none 0 0, .slice none 0 0] 70 (0, 0)) ∧ Below b w w3) := fun w3 h1 h2 => by
    obtain ⟨v0, hv0, _⟩ := hS2.c
    have hK : KeepT w.heap.size w w3 := (KeepT.of_below hw2).trans (KeepT.of_grown (w := w2) h2 hv0 (by decide) (by decide) (by decide))
    refine ⟨(hK _ _ _ _ HVA.out (Or.inl rfl)).trans HVA.out, HPR.out.keep (hK.mono (by omega)), (h2.block _ (by omega) (fun e => by injection e with e; omega)).trans hres, ?_⟩
    exact ((hw2.mono (by omega)).trans ⟨h2.os, h2.tape, h2.output, h2.size, fun k hk => h2.block k (by omega) (fun e => by injection e with e; omega)⟩)
  have Hsz : Hid _ := hsz
  have HB2 : Hid _ := hw2
  refine htk.mono ?_
  rintro e w3 ⟨rfl, hs3, hg3⟩
  obtain ⟨kv3, kp3, kr3, kb3⟩ := HTK.out _ hs3 hg3
  have hsz3 := hg3.size
  rw [hsz] at hsz3
  have hcl := hcall w3 kv3
  have KS : Hid _ := hs3
  have KP : Hid _ := kp3
  have KR : Hid _ := kr3
  have KB : Hid _ := kb3
  clear hbox hS2 hsz hw2 hres hg3 hs3 kv3 kp3 kr3 kb3 HTK HS HPR HVA
  go_wp2_with fail
  refine hcl.mono ?_
  rintro e w4 ⟨rfl, ⟨us, hE, hd⟩, hb4⟩
  have hr4 := (hb4.block _ (Array.getElem?_eq_some_iff.1 KR.out).1).trans KR.out
  have c0 := cell_row hr4 0
  have c1 := cell_row hr4 1
  have z0 := frozen_of_row _ _ 0 _ _ hr4
  have z1 := frozen_of_row _ _ 1 _ _ hr4
  simp at c0 c1
  have HE : Hid _ := hE
  have HD : Hid _ := hd
  have HB4 : Hid _ := hb4
  have HR4 : Hid _ := hr4
  clear hE hd hb4 hr4 hcl htk hcall
  go_wp2
  have f := set2_cells HR4.out (.slice none 0 0) (.slice (some ⟨w3.heap.size, 0, none⟩) (n + 1) (n + 1))
  refine bodyPost_ret (v := .agg #[.slice none 0 0, .slice (some ⟨w3.heap.size, 0, none⟩) (n + 1) (n + 1)]) (by simp [results, Tryz.results69, go_sem, f.1, f.2.1]) rfl ?_
  exact fin_end (KS.out.up HB4.out) (KP.out.keep (KeepT.of_below HB4.out)) HR4.out (KB.out.trans (HB4.out.mono (by omega))) HE.out HTY.out (HSEM.out _ HD.out) (by omega)
set_option maxRecDepth 100000 in
set_option maxHeartbeats 3200000 in
theorem Tryz.mwork23_any (b n c hi : Nat) (d : Option Addr) (zs : List Int) (x : Sk) (px : Mp) (rest : List (Sk × Mp)) (w : World) (hL : LtSl w d n c zs) (hn : n ≤ 10000) (hS : StkAt w b w.heap.size ((((x, px) :: rest).map (·.2)).reverse)) (hP : Parts w n b hi ((x, px) :: rest)) (hh : hi ≤ w.heap.size) (hx : x.1 = true) (hI : InW n x) (hr : rest.length ≤ 1000000) :
    Calls Tryz.prog 69 #[.pointer (some ⟨b, 0, none⟩), .agg #[.int .u8 23, .int .u8 0], .slice d n c] w (WorkR n b w (skT (zN zs) (23, 0) [x]) rest) := by
  have hlen : (zN zs).length = n := by rw [zN_len]; exact hL.sl.hlen
  obtain ⟨lo, hpx, hlo, hPr⟩ := hP
  obtain ⟨p1, p2⟩ := px
  rw [List.map_cons, List.reverse_cons] at hS
  dsimp only at hS
  obtain ⟨ga, rs, hp1, hEa, hva, hga1, hga2⟩ := hpx.1 hx
  dsimp only at hp1
  subst hp1
  have hw1 := below_new w (.cells #[.int .u8 23, .int .u8 0] 61)
  have hw2 := below_step hw1 (below_new (w.alloc (.cells #[.int .u8 23, .int .u8 0] 61)) (.cells #[.slice none 0 0, .slice none 0 0] 70))
  have hbox := (Below.heap_alloc (w.alloc (.cells #[.int .u8 23, .int .u8 0] 61)) (.cells #[.slice none 0 0, .slice none 0 0] 70) w.heap.size (by simp)).trans (MapKept.heap_alloc w _).1
  have hres := (MapKept.heap_alloc (w.alloc (.cells #[.int .u8 23, .int .u8 0] 61)) (.cells #[.slice none 0 0, .slice none 0 0] 70)).1
  have hsz : ((w.alloc (.cells #[.int .u8 23, .int .u8 0] 61)).alloc (.cells #[.slice none 0 0, .slice none 0 0] 70)).heap.size = w.heap.size + 2 := by simp
  rw [show (w.alloc (.cells #[.int .u8 23, .int .u8 0] 61)).heap.size = w.heap.size + 1 by simp] at hres
  clear hw1
  have HSEM : Hid (∀ us : Nat → List Nat, (∀ i, i < n + 1 → ∀ k, hasW (us i) k = true ↔ ∃ m, stepsP (Rl rs) m i k) → ∀ i, i ≤ n → ∀ k, hasW (us i) k = true ↔ (skT (zN zs) (23, 0) [x]).2.2 i k) := fun us hd => sem_star hI hva hd
  have hcall := fun W (h : EndAt W ga (n + 1) rs) => Tryz.mstar_any ga (n + 1) rs W (by omega) (by omega) h (inR_of hI hva)
  have HTY : Hid ((skT (zN zs) (23, 0) [x]).1 = true) := rfl
  generalize skT (zN zs) (23, 0) [x] = X at *
  have hbB := hS.lt
  have HPR : Hid (Parts w n b lo rest) := hPr
  have HVA : Hid (EndAt w ga (n + 1) rs) := hEa
  have HS : Hid _ := hS
  clear hS hPr hEa hva hL hpx hlen
  go_enter Tryz.func69, Tryz.ntmps69
  go_wp2_with fail
  generalize (w.alloc (.cells #[.int .u8 23, .int .u8 0] 61)).alloc (.cells #[.slice none 0 0, .slice none 0 0] 70) = w2 at *
  have hS2 := HS.out.up hw2
  have htk := Tryz.mtake_any b w.heap.size _ _ w2 hS2 (by simpa using hr)
  unfold slV at htk
  dsimp only at htk
  have hfd := Tryz.fld1 (.slice p1.1 p1.2.1 p1.2.2) (.slice (some ⟨ga, 0, none⟩) (n + 1) (n + 1))
  have HTK : Hid (∀ w3, StkAt w3 b w.heap.size ((rest.map (·.2)).reverse) → w2.grownBy w3 (some b) → EndAt w3 ga (n + 1) rs ∧ Parts w3 n b lo rest ∧ w3.heap[w.heap.size + 1]? = some (.cells #[.slice none 0 0, .slice none 0 0] 70 (0, 0)) ∧ Below b w w3) := fun w3 h1 h2 => by
    obtain ⟨v0, hv0, _⟩ := hS2.c
    have hK : KeepT w.heap.size w w3 := (KeepT.of_below hw2).trans (KeepT.of_grown (w := w2) h2 hv0 (by decide) (by decide) (by decide))
    refine ⟨HVA.out.keep (fun k c t z hc ht h1 h2 => hK k c t z hc (Or.inr ⟨ht, by omega⟩)), HPR.out.keep (hK.mono (by omega)), (h2.block _ (by omega) (fun e => by injection e with e; omega)).trans hres, ?_⟩
    exact ((hw2.mono (by omega)).trans ⟨h2.os, h2.tape, h2.output, h2.size, fun k hk => h2.block k (by omega) (fun e => by injection e with e; omega)⟩)
  have Hsz : Hid _ := hsz
  have HB2 : Hid _ := hw2
  refine htk.mono ?_
  rintro e w3 ⟨rfl, hs3, hg3⟩
  obtain ⟨kv3, kp3, kr3, kb3⟩ := HTK.out _ hs3 hg3
  have hsz3 := hg3.size
  rw [hsz] at hsz3
  have hcl := hcall w3 kv3
  have KS : Hid _ := hs3
  have KP : Hid _ := kp3
  have KR : Hid _ := kr3
  have KB : Hid _ := kb3
  clear hbox hS2 hsz hw2 hres hg3 hs3 kv3 kp3 kr3 kb3 HTK HS HPR HVA
  go_wp2_with fail
  refine hcl.mono ?_
  rintro e w4 ⟨rfl, ⟨us, hE, hd⟩, hb4⟩
  have hr4 := (hb4.block _ (Array.getElem?_eq_some_iff.1 KR.out).1).trans KR.out
  have c0 := cell_row hr4 0
  have c1 := cell_row hr4 1
  have z0 := frozen_of_row _ _ 0 _ _ hr4
  have z1 := frozen_of_row _ _ 1 _ _ hr4
  simp at c0 c1
  have HE : Hid _ := hE
  have HD : Hid _ := hd
  have HB4 : Hid _ := hb4
  have HR4 : Hid _ := hr4
  clear hE hd hb4 hr4 hcl htk hcall
  go_wp2
  have f := set2_cells HR4.out (.slice none 0 0) (.slice (some ⟨w3.heap.size, 0, none⟩) (n + 1) (n + 1))
  refine bodyPost_ret (v := .agg #[.slice none 0 0, .slice (some ⟨w3.heap.size, 0, none⟩) (n + 1) (n + 1)]) (by simp [results, Tryz.results69, go_sem, f.1, f.2.1]) rfl ?_
  exact fin_end (KS.out.up HB4.out) (KP.out.keep (KeepT.of_below HB4.out)) HR4.out (KB.out.trans (HB4.out.mono (by omega))) HE.out HTY.out (HSEM.out _ HD.out) (by omega)
end Go.Proofs.YtejekdenpefoiaaGreatDoor
namespace Go.Proofs.YtejekdenpefoiaaGreatDoor
open Go.RowKit Go.Maps
set_option maxRecDepth 100000 in
set_option maxHeartbeats 6400000 in
theorem Tryz.mwork11_any (b n c hi : Nat) (d : Option Addr) (zs : List Int) (x y : Sk) (px py : Mp) (rest : List (Sk × Mp)) (w : World) (hL : LtSl w d n c zs) (hn : n ≤ 10000) (hS : StkAt w b w.heap.size ((((y, py) :: (x, px) :: rest).map (·.2)).reverse)) (hP : Parts w n b hi ((y, py) :: (x, px) :: rest)) (hh : hi ≤ w.heap.size) (hx : x.1 = false) (hy : y.1 = false) (hr : rest.length ≤ 999999) :
    Calls Tryz.prog 69 #[.pointer (some ⟨b, 0, none⟩), .agg #[.int .u8 11, .int .u8 0], .slice d n c] w (WorkR n b w (skT (zN zs) (11, 0) [x, y]) rest) := by
  have hlen : (zN zs).length = n := by rw [zN_len]; exact hL.sl.hlen
  obtain ⟨lo2, hpy, hlo2, lo, hpx, hlo, hPr⟩ := hP
  have hblo := Parts.low hPr
  obtain ⟨p1, p2⟩ := px
  obtain ⟨q1, q2⟩ := py
  rw [List.map_cons, List.reverse_cons, List.map_cons, List.reverse_cons] at hS
  dsimp only at hS
  obtain ⟨ga, av, hp1, hVa, hla, hva, _⟩ := hpx.2 hx
  dsimp only at hp1
  subst hp1
  obtain ⟨gb, bv, hq1, hVb, hlb, hvb, _⟩ := hpy.2 hy
  dsimp only at hq1
  subst hq1
  have hw1 := below_new w (.cells #[.int .u8 11, .int .u8 0] 61)
  have hw2 := below_step hw1 (below_new (w.alloc (.cells #[.int .u8 11, .int .u8 0] 61)) (.cells #[.slice none 0 0, .slice none 0 0] 70))
  have hbox := (Below.heap_alloc (w.alloc (.cells #[.int .u8 11, .int .u8 0] 61)) (.cells #[.slice none 0 0, .slice none 0 0] 70) w.heap.size (by simp)).trans (MapKept.heap_alloc w _).1
  have hres := (MapKept.heap_alloc (w.alloc (.cells #[.int .u8 11, .int .u8 0] 61)) (.cells #[.slice none 0 0, .slice none 0 0] 70)).1
  have hsz : ((w.alloc (.cells #[.int .u8 11, .int .u8 0] 61)).alloc (.cells #[.slice none 0 0, .slice none 0 0] 70)).heap.size = w.heap.size + 2 := by simp
  rw [show (w.alloc (.cells #[.int .u8 11, .int .u8 0] 61)).heap.size = w.heap.size + 1 by simp] at hres
  clear hw1
  have HSEM : Hid (∀ i, binV n 11 (x.2.1, fun _ _ => False) (y.2.1, fun _ _ => False) i ↔ (skT (zN zs) (11, 0) [x, y]).2.1 i) := fun i => sem_two (by omega) hlen i
  have hcall := fun W (h1 : ValAt W ga av) (h2 : ValAt W gb bv) => Tryz.mtwo11_any n ga gb av bv x.2.1 y.2.1 W h1 h2 hla hlb hva hvb hn
  generalize binV n 11 (x.2.1, fun _ _ => False) (y.2.1, fun _ _ => False) = VV at *
  have HTY : Hid ((skT (zN zs) (11, 0) [x, y]).1 = false) := rfl
  generalize skT (zN zs) (11, 0) [x, y] = X at *
  have hbB := hS.lt
  have HPR : Hid (Parts w n b lo rest) := hPr
  have HVA : Hid (ValAt w ga av) := hVa
  have HVB : Hid (ValAt w gb bv) := hVb
  have HS : Hid _ := hS
  clear hS hPr hVa hVb hva hvb hla hlb hL hpx hpy hlen
  go_enter Tryz.func69, Tryz.ntmps69
  go_wp2_with fail
  generalize (w.alloc (.cells #[.int .u8 11, .int .u8 0] 61)).alloc (.cells #[.slice none 0 0, .slice none 0 0] 70) = w2 at *
  have hS2 := HS.out.up hw2
  have htk := Tryz.mtake_any b w.heap.size _ _ w2 hS2 (by simp; omega)
  unfold slV at htk
  dsimp only at htk
  have Hsz : Hid _ := hsz
  have HB2 : Hid _ := hw2
  have HBX : Hid _ := hbox
  have HRS : Hid _ := hres
  have HS2 : Hid _ := hS2
  clear hbox hS2 hsz hw2 hres
  refine htk.mono ?_
  rintro e w3 ⟨rfl, hs3, hg3⟩
  have htk2 := Tryz.mtake_any b w.heap.size _ _ (w3.alloc (.cells #[.slice (some ⟨gb, 0, none⟩) (n + 1) (n + 1), .slice q2.1 q2.2.1 q2.2.2] 70)) (hs3.up (below_new _ _)) (by simp; omega)
  unfold slV at htk2
  dsimp only at htk2
  have HG3 : Hid _ := hg3
  have HS3 : Hid _ := hs3
  clear htk hs3 hg3
  go_wp2_with fail
  refine htk2.mono ?_
  rintro e w4 ⟨rfl, hs4, hg4⟩
  have hz2 := Hsz.out
  have hz3 := HG3.out.size
  have hz4 := hg4.size
  have hz4' : w3.heap.size + 1 ≤ w4.heap.size := by simpa using hz4
  have hbx3 := (HG3.out.block w.heap.size (by omega) (fun e => by injection e with e; omega)).trans HBX.out
  have hbx4 := (hg4.block w.heap.size (by simp; omega) (fun e => by injection e with e; omega)).trans ((Below.heap_alloc w3 (.cells #[.slice (some ⟨gb, 0, none⟩) (n + 1) (n + 1), .slice q2.1 q2.2.1 q2.2.2] 70) _ (by omega)).trans hbx3)
  have hrs3 := (HG3.out.block (w.heap.size + 1) (by omega) (fun e => by injection e with e; omega)).trans HRS.out
  have hrs4 := (hg4.block (w.heap.size + 1) (by simp; omega) (fun e => by injection e with e; omega)).trans ((Below.heap_alloc w3 (.cells #[.slice (some ⟨gb, 0, none⟩) (n + 1) (n + 1), .slice q2.1 q2.2.1 q2.2.2] 70) _ (by omega)).trans hrs3)
  have hvb4 := (hg4.block w3.heap.size (by simp) (fun e => by injection e with e; omega)).trans (MapKept.heap_alloc w3 (.cells #[.slice (some ⟨gb, 0, none⟩) (n + 1) (n + 1), .slice q2.1 q2.2.1 q2.2.2] 70)).1
  have hK : KeepT w.heap.size w w4 := by
    obtain ⟨v0, hv0, _⟩ := HS2.out.c
    obtain ⟨v1, hv1, _⟩ := (HS3.out.up (below_new w3 (.cells #[.slice (some ⟨gb, 0, none⟩) (n + 1) (n + 1), .slice q2.1 q2.2.1 q2.2.2] 70))).c
    exact (((KeepT.of_below HB2.out).trans (KeepT.of_grown HG3.out hv0 (by decide) (by decide) (by decide))).trans (KeepT.of_below (below_new _ (.cells #[.slice (some ⟨gb, 0, none⟩) (n + 1) (n + 1), .slice q2.1 q2.2.1 q2.2.2] 70)))).trans (KeepT.of_grown hg4 hv1 (by decide) (by decide) (by decide))
  have hbl : Below b w w4 := by
    have h1 : Below b w2 w3 := ⟨HG3.out.os, HG3.out.tape, HG3.out.output, HG3.out.size, fun k hk => HG3.out.block k (by omega) (fun e => by injection e with e; omega)⟩
    have h2 : Below b (w3.alloc (.cells #[.slice (some ⟨gb, 0, none⟩) (n + 1) (n + 1), .slice q2.1 q2.2.1 q2.2.2] 70)) w4 := ⟨hg4.os, hg4.tape, hg4.output, hg4.size, fun k hk => hg4.block k (by simp; omega) (fun e => by injection e with e; omega)⟩
    exact (((HB2.out.mono (by omega)).trans h1).trans ((below_new _ _).mono (by omega))).trans h2
  have KA : Hid (ValAt w4 ga av) := (hK _ _ _ _ HVA.out (Or.inl rfl)).trans HVA.out
  have KBv : Hid (ValAt w4 gb bv) := (hK _ _ _ _ HVB.out (Or.inl rfl)).trans HVB.out
  have KP : Hid (Parts w4 n b lo rest) := HPR.out.keep (hK.mono (by omega))
  have KB : Hid (Below b w w4) := hbl
  have KS : Hid _ := hs4
  have KR : Hid _ := hrs4
  have cx := cell_row ((Below.heap_alloc w4 (.cells #[.slice (some ⟨ga, 0, none⟩) (n + 1) (n + 1), .slice p2.1 p2.2.1 p2.2.2] 70) _ (by omega)).trans hbx4) 0
  have cb0 := cell_row ((Below.heap_alloc w4 (.cells #[.slice (some ⟨ga, 0, none⟩) (n + 1) (n + 1), .slice p2.1 p2.2.1 p2.2.2] 70) _ (by omega)).trans hvb4) 0
  have cb1 := cell_row ((Below.heap_alloc w4 (.cells #[.slice (some ⟨ga, 0, none⟩) (n + 1) (n + 1), .slice p2.1 p2.2.1 p2.2.2] 70) _ (by omega)).trans hvb4) 1
  simp at cx cb0 cb1
  have hcl := hcall (w4.alloc (.cells #[.slice (some ⟨ga, 0, none⟩) (n + 1) (n + 1), .slice p2.1 p2.2.1 p2.2.2] 70)) (KA.out.up (below_new _ _)) (KBv.out.up (below_new _ _))
  have HZ : Hid (w.heap.size + 2 ≤ w4.heap.size) := by show _ ≤ _; omega
  clear hbx3 hbx4 hrs3 hrs4 hvb4 hK hbl hs4 hg4 hz2 hz3 hz4 hz4' htk2 hcall HG3 HS3 HS2 HRS HBX HB2 Hsz HPR HVA HVB HS KA KBv
  go_wp2_with fail
  refine hcl.mono ?_
  rintro e w6 ⟨g, bs, rfl, hV, hl, hv, hb6, hge⟩
  have hr6 := (hb6.block (w.heap.size + 1) (by have := HZ.out; simp; omega)).trans ((Below.heap_alloc w4 (.cells #[.slice (some ⟨ga, 0, none⟩) (n + 1) (n + 1), .slice p2.1 p2.2.1 p2.2.2] 70) _ (by have := HZ.out; omega)).trans KR.out)
  have K6 := below_step (below_new w4 (.cells #[.slice (some ⟨ga, 0, none⟩) (n + 1) (n + 1), .slice p2.1 p2.2.1 p2.2.2] 70)) hb6
  have c0 := cell_row hr6 0
  have c1 := cell_row hr6 1
  have z0 := frozen_of_row _ _ 0 _ _ hr6
  have z1 := frozen_of_row _ _ 1 _ _ hr6
  simp at c0 c1
  have HR6 : Hid _ := hr6
  have HF : Hid (WorkR n b w X rest (.returned (.agg #[.slice (some ⟨g, 0, none⟩) (n + 1) (n + 1), .slice none 0 0])) ((w6.setCell ⟨w.heap.size + 1, 0, none⟩ (.slice (some ⟨g, 0, none⟩) (n + 1) (n + 1))).setCell ⟨w.heap.size + 1, 1, none⟩ (.slice none 0 0))) :=
    fin_val (KS.out.up K6) (KP.out.keep (KeepT.of_below K6)) hr6 (KB.out.trans (K6.mono (by have := HZ.out; omega))) hV hl HTY.out (fun i hi => (hv i hi).trans (HSEM.out i)) (by have := HZ.out; have := K6.size; omega) (by have := HZ.out; simp at hge; omega)
  clear hge hV hl hv hb6 hr6 K6 hcl KS KP KR KB cx cb0 cb1
  go_wp2
  have f := set2_cells HR6.out (.slice (some ⟨g, 0, none⟩) (n + 1) (n + 1)) (.slice none 0 0)
  refine bodyPost_ret (v := .agg #[.slice (some ⟨g, 0, none⟩) (n + 1) (n + 1), .slice none 0 0]) (by simp [results, Tryz.results69, go_sem, f.1, f.2.1]) rfl ?_
  exact HF.out
set_option maxRecDepth 100000 in
set_option maxHeartbeats 6400000 in
theorem Tryz.mwork12_any (b n c hi : Nat) (d : Option Addr) (zs : List Int) (x y : Sk) (px py : Mp) (rest : List (Sk × Mp)) (w : World) (hL : LtSl w d n c zs) (hn : n ≤ 10000) (hS : StkAt w b w.heap.size ((((y, py) :: (x, px) :: rest).map (·.2)).reverse)) (hP : Parts w n b hi ((y, py) :: (x, px) :: rest)) (hh : hi ≤ w.heap.size) (hx : x.1 = false) (hy : y.1 = false) (hr : rest.length ≤ 999999) :
    Calls Tryz.prog 69 #[.pointer (some ⟨b, 0, none⟩), .agg #[.int .u8 12, .int .u8 0], .slice d n c] w (WorkR n b w (skT (zN zs) (12, 0) [x, y]) rest) := by
  have hlen : (zN zs).length = n := by rw [zN_len]; exact hL.sl.hlen
  obtain ⟨lo2, hpy, hlo2, lo, hpx, hlo, hPr⟩ := hP
  have hblo := Parts.low hPr
  obtain ⟨p1, p2⟩ := px
  obtain ⟨q1, q2⟩ := py
  rw [List.map_cons, List.reverse_cons, List.map_cons, List.reverse_cons] at hS
  dsimp only at hS
  obtain ⟨ga, av, hp1, hVa, hla, hva, _⟩ := hpx.2 hx
  dsimp only at hp1
  subst hp1
  obtain ⟨gb, bv, hq1, hVb, hlb, hvb, _⟩ := hpy.2 hy
  dsimp only at hq1
  subst hq1
  have hw1 := below_new w (.cells #[.int .u8 12, .int .u8 0] 61)
  have hw2 := below_step hw1 (below_new (w.alloc (.cells #[.int .u8 12, .int .u8 0] 61)) (.cells #[.slice none 0 0, .slice none 0 0] 70))
  have hbox := (Below.heap_alloc (w.alloc (.cells #[.int .u8 12, .int .u8 0] 61)) (.cells #[.slice none 0 0, .slice none 0 0] 70) w.heap.size (by simp)).trans (MapKept.heap_alloc w _).1
  have hres := (MapKept.heap_alloc (w.alloc (.cells #[.int .u8 12, .int .u8 0] 61)) (.cells #[.slice none 0 0, .slice none 0 0] 70)).1
  have hsz : ((w.alloc (.cells #[.int .u8 12, .int .u8 0] 61)).alloc (.cells #[.slice none 0 0, .slice none 0 0] 70)).heap.size = w.heap.size + 2 := by simp
  rw [show (w.alloc (.cells #[.int .u8 12, .int .u8 0] 61)).heap.size = w.heap.size + 1 by simp] at hres
  clear hw1
  have HSEM : Hid (∀ i, binV n 12 (x.2.1, fun _ _ => False) (y.2.1, fun _ _ => False) i ↔ (skT (zN zs) (12, 0) [x, y]).2.1 i) := fun i => sem_two (by omega) hlen i
  have hcall := fun W (h1 : ValAt W ga av) (h2 : ValAt W gb bv) => Tryz.mtwo12_any n ga gb av bv x.2.1 y.2.1 W h1 h2 hla hlb hva hvb hn
  generalize binV n 12 (x.2.1, fun _ _ => False) (y.2.1, fun _ _ => False) = VV at *
  have HTY : Hid ((skT (zN zs) (12, 0) [x, y]).1 = false) := rfl
  generalize skT (zN zs) (12, 0) [x, y] = X at *
  have hbB := hS.lt
  have HPR : Hid (Parts w n b lo rest) := hPr
  have HVA : Hid (ValAt w ga av) := hVa
  have HVB : Hid (ValAt w gb bv) := hVb
  have HS : Hid _ := hS
  clear hS hPr hVa hVb hva hvb hla hlb hL hpx hpy hlen
  go_enter Tryz.func69, Tryz.ntmps69
  go_wp2_with fail
  generalize (w.alloc (.cells #[.int .u8 12, .int .u8 0] 61)).alloc (.cells #[.slice none 0 0, .slice none 0 0] 70) = w2 at *
  have hS2 := HS.out.up hw2
  have htk := Tryz.mtake_any b w.heap.size _ _ w2 hS2 (by simp; omega)
  unfold slV at htk
  dsimp only at htk
  have Hsz : Hid _ := hsz
  have HB2 : Hid _ := hw2
  have HBX : Hid _ := hbox
  have HRS : Hid _ := hres
  have HS2 : Hid _ := hS2
  clear hbox hS2 hsz hw2 hres
  refine htk.mono ?_
  rintro e w3 ⟨rfl, hs3, hg3⟩
  have htk2 := Tryz.mtake_any b w.heap.size _ _ (w3.alloc (.cells #[.slice (some ⟨gb, 0, none⟩) (n + 1) (n + 1), .slice q2.1 q2.2.1 q2.2.2] 70)) (hs3.up (below_new _ _)) (by simp; omega)
  unfold slV at htk2
  dsimp only at htk2
  have HG3 : Hid _ := hg3
  have HS3 : Hid _ := hs3
  clear htk hs3 hg3
  go_wp2_with fail
  refine htk2.mono ?_
  rintro e w4 ⟨rfl, hs4, hg4⟩
  have hz2 := Hsz.out
  have hz3 := HG3.out.size
  have hz4 := hg4.size
  have hz4' : w3.heap.size + 1 ≤ w4.heap.size := by simpa using hz4
  have hbx3 := (HG3.out.block w.heap.size (by omega) (fun e => by injection e with e; omega)).trans HBX.out
  have hbx4 := (hg4.block w.heap.size (by simp; omega) (fun e => by injection e with e; omega)).trans ((Below.heap_alloc w3 (.cells #[.slice (some ⟨gb, 0, none⟩) (n + 1) (n + 1), .slice q2.1 q2.2.1 q2.2.2] 70) _ (by omega)).trans hbx3)
  have hrs3 := (HG3.out.block (w.heap.size + 1) (by omega) (fun e => by injection e with e; omega)).trans HRS.out
  have hrs4 := (hg4.block (w.heap.size + 1) (by simp; omega) (fun e => by injection e with e; omega)).trans ((Below.heap_alloc w3 (.cells #[.slice (some ⟨gb, 0, none⟩) (n + 1) (n + 1), .slice q2.1 q2.2.1 q2.2.2] 70) _ (by omega)).trans hrs3)
  have hvb4 := (hg4.block w3.heap.size (by simp) (fun e => by injection e with e; omega)).trans (MapKept.heap_alloc w3 (.cells #[.slice (some ⟨gb, 0, none⟩) (n + 1) (n + 1), .slice q2.1 q2.2.1 q2.2.2] 70)).1
  have hK : KeepT w.heap.size w w4 := by
    obtain ⟨v0, hv0, _⟩ := HS2.out.c
    obtain ⟨v1, hv1, _⟩ := (HS3.out.up (below_new w3 (.cells #[.slice (some ⟨gb, 0, none⟩) (n + 1) (n + 1), .slice q2.1 q2.2.1 q2.2.2] 70))).c
    exact (((KeepT.of_below HB2.out).trans (KeepT.of_grown HG3.out hv0 (by decide) (by decide) (by decide))).trans (KeepT.of_below (below_new _ (.cells #[.slice (some ⟨gb, 0, none⟩) (n + 1) (n + 1), .slice q2.1 q2.2.1 q2.2.2] 70)))).trans (KeepT.of_grown hg4 hv1 (by decide) (by decide) (by decide))
  have hbl : Below b w w4 := by
    have h1 : Below b w2 w3 := ⟨HG3.out.os, HG3.out.tape, HG3.out.output, HG3.out.size, fun k hk => HG3.out.block k (by omega) (fun e => by injection e with e; omega)⟩
    have h2 : Below b (w3.alloc (.cells #[.slice (some ⟨gb, 0, none⟩) (n + 1) (n + 1), .slice q2.1 q2.2.1 q2.2.2] 70)) w4 := ⟨hg4.os, hg4.tape, hg4.output, hg4.size, fun k hk => hg4.block k (by simp; omega) (fun e => by injection e with e; omega)⟩
    exact (((HB2.out.mono (by omega)).trans h1).trans ((below_new _ _).mono (by omega))).trans h2
  have KA : Hid (ValAt w4 ga av) := (hK _ _ _ _ HVA.out (Or.inl rfl)).trans HVA.out
  have KBv : Hid (ValAt w4 gb bv) := (hK _ _ _ _ HVB.out (Or.inl rfl)).trans HVB.out
  have KP : Hid (Parts w4 n b lo rest) := HPR.out.keep (hK.mono (by omega))
  have KB : Hid (Below b w w4) := hbl
  have KS : Hid _ := hs4
  have KR : Hid _ := hrs4
  have cx := cell_row ((Below.heap_alloc w4 (.cells #[.slice (some ⟨ga, 0, none⟩) (n + 1) (n + 1), .slice p2.1 p2.2.1 p2.2.2] 70) _ (by omega)).trans hbx4) 0
  have cb0 := cell_row ((Below.heap_alloc w4 (.cells #[.slice (some ⟨ga, 0, none⟩) (n + 1) (n + 1), .slice p2.1 p2.2.1 p2.2.2] 70) _ (by omega)).trans hvb4) 0
  have cb1 := cell_row ((Below.heap_alloc w4 (.cells #[.slice (some ⟨ga, 0, none⟩) (n + 1) (n + 1), .slice p2.1 p2.2.1 p2.2.2] 70) _ (by omega)).trans hvb4) 1
  simp at cx cb0 cb1
  have hcl := hcall (w4.alloc (.cells #[.slice (some ⟨ga, 0, none⟩) (n + 1) (n + 1), .slice p2.1 p2.2.1 p2.2.2] 70)) (KA.out.up (below_new _ _)) (KBv.out.up (below_new _ _))
  have HZ : Hid (w.heap.size + 2 ≤ w4.heap.size) := by show _ ≤ _; omega
  clear hbx3 hbx4 hrs3 hrs4 hvb4 hK hbl hs4 hg4 hz2 hz3 hz4 hz4' htk2 hcall HG3 HS3 HS2 HRS HBX HB2 Hsz HPR HVA HVB HS KA KBv
  go_wp2_with fail
  refine hcl.mono ?_
  rintro e w6 ⟨g, bs, rfl, hV, hl, hv, hb6, hge⟩
  have hr6 := (hb6.block (w.heap.size + 1) (by have := HZ.out; simp; omega)).trans ((Below.heap_alloc w4 (.cells #[.slice (some ⟨ga, 0, none⟩) (n + 1) (n + 1), .slice p2.1 p2.2.1 p2.2.2] 70) _ (by have := HZ.out; omega)).trans KR.out)
  have K6 := below_step (below_new w4 (.cells #[.slice (some ⟨ga, 0, none⟩) (n + 1) (n + 1), .slice p2.1 p2.2.1 p2.2.2] 70)) hb6
  have c0 := cell_row hr6 0
  have c1 := cell_row hr6 1
  have z0 := frozen_of_row _ _ 0 _ _ hr6
  have z1 := frozen_of_row _ _ 1 _ _ hr6
  simp at c0 c1
  have HR6 : Hid _ := hr6
  have HF : Hid (WorkR n b w X rest (.returned (.agg #[.slice (some ⟨g, 0, none⟩) (n + 1) (n + 1), .slice none 0 0])) ((w6.setCell ⟨w.heap.size + 1, 0, none⟩ (.slice (some ⟨g, 0, none⟩) (n + 1) (n + 1))).setCell ⟨w.heap.size + 1, 1, none⟩ (.slice none 0 0))) :=
    fin_val (KS.out.up K6) (KP.out.keep (KeepT.of_below K6)) hr6 (KB.out.trans (K6.mono (by have := HZ.out; omega))) hV hl HTY.out (fun i hi => (hv i hi).trans (HSEM.out i)) (by have := HZ.out; have := K6.size; omega) (by have := HZ.out; simp at hge; omega)
  clear hge hV hl hv hb6 hr6 K6 hcl KS KP KR KB cx cb0 cb1
  go_wp2
  have f := set2_cells HR6.out (.slice (some ⟨g, 0, none⟩) (n + 1) (n + 1)) (.slice none 0 0)
  refine bodyPost_ret (v := .agg #[.slice (some ⟨g, 0, none⟩) (n + 1) (n + 1), .slice none 0 0]) (by simp [results, Tryz.results69, go_sem, f.1, f.2.1]) rfl ?_
  exact HF.out
set_option maxRecDepth 100000 in
set_option maxHeartbeats 6400000 in
theorem Tryz.mwork13_any (b n c hi : Nat) (d : Option Addr) (zs : List Int) (x y : Sk) (px py : Mp) (rest : List (Sk × Mp)) (w : World) (hL : LtSl w d n c zs) (hn : n ≤ 10000) (hS : StkAt w b w.heap.size ((((y, py) :: (x, px) :: rest).map (·.2)).reverse)) (hP : Parts w n b hi ((y, py) :: (x, px) :: rest)) (hh : hi ≤ w.heap.size) (hx : x.1 = false) (hy : y.1 = false) (hr : rest.length ≤ 999999) :
    Calls Tryz.prog 69 #[.pointer (some ⟨b, 0, none⟩), .agg #[.int .u8 13, .int .u8 0], .slice d n c] w (WorkR n b w (skT (zN zs) (13, 0) [x, y]) rest) := by
  have hlen : (zN zs).length = n := by rw [zN_len]; exact hL.sl.hlen
  obtain ⟨lo2, hpy, hlo2, lo, hpx, hlo, hPr⟩ := hP
  have hblo := Parts.low hPr
  obtain ⟨p1, p2⟩ := px
  obtain ⟨q1, q2⟩ := py
  rw [List.map_cons, List.reverse_cons, List.map_cons, List.reverse_cons] at hS
  dsimp only at hS
  obtain ⟨ga, av, hp1, hVa, hla, hva, _⟩ := hpx.2 hx
  dsimp only at hp1
  subst hp1
  obtain ⟨gb, bv, hq1, hVb, hlb, hvb, _⟩ := hpy.2 hy
  dsimp only at hq1
  subst hq1
  have hw1 := below_new w (.cells #[.int .u8 13, .int .u8 0] 61)
  have hw2 := below_step hw1 (below_new (w.alloc (.cells #[.int .u8 13, .int .u8 0] 61)) (.cells #[.slice none 0 0, .slice none 0 0] 70))
  have hbox := (Below.heap_alloc (w.alloc (.cells #[.int .u8 13, .int .u8 0] 61)) (.cells #[.slice none 0 0, .slice none 0 0] 70) w.heap.size (by simp)).trans (MapKept.heap_alloc w _).1
  have hres := (MapKept.heap_alloc (w.alloc (.cells #[.int .u8 13, .int .u8 0] 61)) (.cells #[.slice none 0 0, .slice none 0 0] 70)).1
  have hsz : ((w.alloc (.cells #[.int .u8 13, .int .u8 0] 61)).alloc (.cells #[.slice none 0 0, .slice none 0 0] 70)).heap.size = w.heap.size + 2 := by simp
  rw [show (w.alloc (.cells #[.int .u8 13, .int .u8 0] 61)).heap.size = w.heap.size + 1 by simp] at hres
  clear hw1
  have HSEM : Hid (∀ i, binV n 13 (x.2.1, fun _ _ => False) (y.2.1, fun _ _ => False) i ↔ (skT (zN zs) (13, 0) [x, y]).2.1 i) := fun i => sem_two (by omega) hlen i
  have hcall := fun W (h1 : ValAt W ga av) (h2 : ValAt W gb bv) => Tryz.mtwo13_any n ga gb av bv x.2.1 y.2.1 W h1 h2 hla hlb hva hvb hn
  generalize binV n 13 (x.2.1, fun _ _ => False) (y.2.1, fun _ _ => False) = VV at *
  have HTY : Hid ((skT (zN zs) (13, 0) [x, y]).1 = false) := rfl
  generalize skT (zN zs) (13, 0) [x, y] = X at *
  have hbB := hS.lt
  have HPR : Hid (Parts w n b lo rest) := hPr
  have HVA : Hid (ValAt w ga av) := hVa
  have HVB : Hid (ValAt w gb bv) := hVb
  have HS : Hid _ := hS
  clear hS hPr hVa hVb hva hvb hla hlb hL hpx hpy hlen
  go_enter Tryz.func69, Tryz.ntmps69
  go_wp2_with fail
  generalize (w.alloc (.cells #[.int .u8 13, .int .u8 0] 61)).alloc (.cells #[.slice none 0 0, .slice none 0 0] 70) = w2 at *
  have hS2 := HS.out.up hw2
  have htk := Tryz.mtake_any b w.heap.size _ _ w2 hS2 (by simp; omega)
  unfold slV at htk
  dsimp only at htk
  have Hsz : Hid _ := hsz
  have HB2 : Hid _ := hw2
  have HBX : Hid _ := hbox
  have HRS : Hid _ := hres
  have HS2 : Hid _ := hS2
  clear hbox hS2 hsz hw2 hres
  refine htk.mono ?_
  rintro e w3 ⟨rfl, hs3, hg3⟩
  have htk2 := Tryz.mtake_any b w.heap.size _ _ (w3.alloc (.cells #[.slice (some ⟨gb, 0, none⟩) (n + 1) (n + 1), .slice q2.1 q2.2.1 q2.2.2] 70)) (hs3.up (below_new _ _)) (by simp; omega)
  unfold slV at htk2
  dsimp only at htk2
  have HG3 : Hid _ := hg3
  have HS3 : Hid _ := hs3
  clear htk hs3 hg3
  go_wp2_with fail
  refine htk2.mono ?_
  rintro e w4 ⟨rfl, hs4, hg4⟩
  have hz2 := Hsz.out
  have hz3 := HG3.out.size
  have hz4 := hg4.size
  have hz4' : w3.heap.size + 1 ≤ w4.heap.size := by simpa using hz4
  have hbx3 := (HG3.out.block w.heap.size (by omega) (fun e => by injection e with e; omega)).trans HBX.out
  have hbx4 := (hg4.block w.heap.size (by simp; omega) (fun e => by injection e with e; omega)).trans ((Below.heap_alloc w3 (.cells #[.slice (some ⟨gb, 0, none⟩) (n + 1) (n + 1), .slice q2.1 q2.2.1 q2.2.2] 70) _ (by omega)).trans hbx3)
  have hrs3 := (HG3.out.block (w.heap.size + 1) (by omega) (fun e => by injection e with e; omega)).trans HRS.out
  have hrs4 := (hg4.block (w.heap.size + 1) (by simp; omega) (fun e => by injection e with e; omega)).trans ((Below.heap_alloc w3 (.cells #[.slice (some ⟨gb, 0, none⟩) (n + 1) (n + 1), .slice q2.1 q2.2.1 q2.2.2] 70) _ (by omega)).trans hrs3)
  have hvb4 := (hg4.block w3.heap.size (by simp) (fun e => by injection e with e; omega)).trans (MapKept.heap_alloc w3 (.cells #[.slice (some ⟨gb, 0, none⟩) (n + 1) (n + 1), .slice q2.1 q2.2.1 q2.2.2] 70)).1
  have hK : KeepT w.heap.size w w4 := by
    obtain ⟨v0, hv0, _⟩ := HS2.out.c
    obtain ⟨v1, hv1, _⟩ := (HS3.out.up (below_new w3 (.cells #[.slice (some ⟨gb, 0, none⟩) (n + 1) (n + 1), .slice q2.1 q2.2.1 q2.2.2] 70))).c
    exact (((KeepT.of_below HB2.out).trans (KeepT.of_grown HG3.out hv0 (by decide) (by decide) (by decide))).trans (KeepT.of_below (below_new _ (.cells #[.slice (some ⟨gb, 0, none⟩) (n + 1) (n + 1), .slice q2.1 q2.2.1 q2.2.2] 70)))).trans (KeepT.of_grown hg4 hv1 (by decide) (by decide) (by decide))
  have hbl : Below b w w4 := by
    have h1 : Below b w2 w3 := ⟨HG3.out.os, HG3.out.tape, HG3.out.output, HG3.out.size, fun k hk => HG3.out.block k (by omega) (fun e => by injection e with e; omega)⟩
    have h2 : Below b (w3.alloc (.cells #[.slice (some ⟨gb, 0, none⟩) (n + 1) (n + 1), .slice q2.1 q2.2.1 q2.2.2] 70)) w4 := ⟨hg4.os, hg4.tape, hg4.output, hg4.size, fun k hk => hg4.block k (by simp; omega) (fun e => by injection e with e; omega)⟩
    exact (((HB2.out.mono (by omega)).trans h1).trans ((below_new _ _).mono (by omega))).trans h2
  have KA : Hid (ValAt w4 ga av) := (hK _ _ _ _ HVA.out (Or.inl rfl)).trans HVA.out
  have KBv : Hid (ValAt w4 gb bv) := (hK _ _ _ _ HVB.out (Or.inl rfl)).trans HVB.out
  have KP : Hid (Parts w4 n b lo rest) := HPR.out.keep (hK.mono (by omega))
  have KB : Hid (Below b w w4) := hbl
  have KS : Hid _ := hs4
  have KR : Hid _ := hrs4
  have cx := cell_row ((Below.heap_alloc w4 (.cells #[.slice (some ⟨ga, 0, none⟩) (n + 1) (n + 1), .slice p2.1 p2.2.1 p2.2.2] 70) _ (by omega)).trans hbx4) 0
  have cb0 := cell_row ((Below.heap_alloc w4 (.cells #[.slice (some ⟨ga, 0, none⟩) (n + 1) (n + 1), .slice p2.1 p2.2.1 p2.2.2] 70) _ (by omega)).trans hvb4) 0
  have cb1 := cell_row ((Below.heap_alloc w4 (.cells #[.slice (some ⟨ga, 0, none⟩) (n + 1) (n + 1), .slice p2.1 p2.2.1 p2.2.2] 70) _ (by omega)).trans hvb4) 1
  simp at cx cb0 cb1
  have hcl := hcall (w4.alloc (.cells #[.slice (some ⟨ga, 0, none⟩) (n + 1) (n + 1), .slice p2.1 p2.2.1 p2.2.2] 70)) (KA.out.up (below_new _ _)) (KBv.out.up (below_new _ _))
  have HZ : Hid (w.heap.size + 2 ≤ w4.heap.size) := by show _ ≤ _; omega
  clear hbx3 hbx4 hrs3 hrs4 hvb4 hK hbl hs4 hg4 hz2 hz3 hz4 hz4' htk2 hcall HG3 HS3 HS2 HRS HBX HB2 Hsz HPR HVA HVB HS KA KBv
  go_wp2_with fail
  refine hcl.mono ?_
  rintro e w6 ⟨g, bs, rfl, hV, hl, hv, hb6, hge⟩
  have hr6 := (hb6.block (w.heap.size + 1) (by have := HZ.out; simp; omega)).trans ((Below.heap_alloc w4 (.cells #[.slice (some ⟨ga, 0, none⟩) (n + 1) (n + 1), .slice p2.1 p2.2.1 p2.2.2] 70) _ (by have := HZ.out; omega)).trans KR.out)
  have K6 := below_step (below_new w4 (.cells #[.slice (some ⟨ga, 0, none⟩) (n + 1) (n + 1), .slice p2.1 p2.2.1 p2.2.2] 70)) hb6
  have c0 := cell_row hr6 0
  have c1 := cell_row hr6 1
  have z0 := frozen_of_row _ _ 0 _ _ hr6
  have z1 := frozen_of_row _ _ 1 _ _ hr6
  simp at c0 c1
  have HR6 : Hid _ := hr6
  have HF : Hid (WorkR n b w X rest (.returned (.agg #[.slice (some ⟨g, 0, none⟩) (n + 1) (n + 1), .slice none 0 0])) ((w6.setCell ⟨w.heap.size + 1, 0, none⟩ (.slice (some ⟨g, 0, none⟩) (n + 1) (n + 1))).setCell ⟨w.heap.size + 1, 1, none⟩ (.slice none 0 0))) :=
    fin_val (KS.out.up K6) (KP.out.keep (KeepT.of_below K6)) hr6 (KB.out.trans (K6.mono (by have := HZ.out; omega))) hV hl HTY.out (fun i hi => (hv i hi).trans (HSEM.out i)) (by have := HZ.out; have := K6.size; omega) (by have := HZ.out; simp at hge; omega)
  clear hge hV hl hv hb6 hr6 K6 hcl KS KP KR KB cx cb0 cb1
  go_wp2
  have f := set2_cells HR6.out (.slice (some ⟨g, 0, none⟩) (n + 1) (n + 1)) (.slice none 0 0)
  refine bodyPost_ret (v := .agg #[.slice (some ⟨g, 0, none⟩) (n + 1) (n + 1), .slice none 0 0]) (by simp [results, Tryz.results69, go_sem, f.1, f.2.1]) rfl ?_
  exact HF.out
set_option maxRecDepth 100000 in
set_option maxHeartbeats 6400000 in
theorem Tryz.mwork14_any (b n c hi : Nat) (d : Option Addr) (zs : List Int) (x y : Sk) (px py : Mp) (rest : List (Sk × Mp)) (w : World) (hL : LtSl w d n c zs) (hn : n ≤ 10000) (hS : StkAt w b w.heap.size ((((y, py) :: (x, px) :: rest).map (·.2)).reverse)) (hP : Parts w n b hi ((y, py) :: (x, px) :: rest)) (hh : hi ≤ w.heap.size) (hx : x.1 = false) (hy : y.1 = false) (hr : rest.length ≤ 999999) :
    Calls Tryz.prog 69 #[.pointer (some ⟨b, 0, none⟩), .agg #[.int .u8 14, .int .u8 0], .slice d n c] w (WorkR n b w (skT (zN zs) (14, 0) [x, y]) rest) := by
  have hlen : (zN zs).length = n := by rw [zN_len]; exact hL.sl.hlen
  obtain ⟨lo2, hpy, hlo2, lo, hpx, hlo, hPr⟩ := hP
  have hblo := Parts.low hPr
  obtain ⟨p1, p2⟩ := px
  obtain ⟨q1, q2⟩ := py
  rw [List.map_cons, List.reverse_cons, List.map_cons, List.reverse_cons] at hS
  dsimp only at hS
  obtain ⟨ga, av, hp1, hVa, hla, hva, _⟩ := hpx.2 hx
  dsimp only at hp1
  subst hp1
  obtain ⟨gb, bv, hq1, hVb, hlb, hvb, _⟩ := hpy.2 hy
  dsimp only at hq1
  subst hq1
  have hw1 := below_new w (.cells #[.int .u8 14, .int .u8 0] 61)
  have hw2 := below_step hw1 (below_new (w.alloc (.cells #[.int .u8 14, .int .u8 0] 61)) (.cells #[.slice none 0 0, .slice none 0 0] 70))
  have hbox := (Below.heap_alloc (w.alloc (.cells #[.int .u8 14, .int .u8 0] 61)) (.cells #[.slice none 0 0, .slice none 0 0] 70) w.heap.size (by simp)).trans (MapKept.heap_alloc w _).1
  have hres := (MapKept.heap_alloc (w.alloc (.cells #[.int .u8 14, .int .u8 0] 61)) (.cells #[.slice none 0 0, .slice none 0 0] 70)).1
  have hsz : ((w.alloc (.cells #[.int .u8 14, .int .u8 0] 61)).alloc (.cells #[.slice none 0 0, .slice none 0 0] 70)).heap.size = w.heap.size + 2 := by simp
  rw [show (w.alloc (.cells #[.int .u8 14, .int .u8 0] 61)).heap.size = w.heap.size + 1 by simp] at hres
  clear hw1
  have HSEM : Hid (∀ i, binV n 14 (x.2.1, fun _ _ => False) (y.2.1, fun _ _ => False) i ↔ (skT (zN zs) (14, 0) [x, y]).2.1 i) := fun i => sem_two (by omega) hlen i
  have hcall := fun W (h1 : ValAt W ga av) (h2 : ValAt W gb bv) => Tryz.mtwo14_any n ga gb av bv x.2.1 y.2.1 W h1 h2 hla hlb hva hvb hn
  generalize binV n 14 (x.2.1, fun _ _ => False) (y.2.1, fun _ _ => False) = VV at *
  have HTY : Hid ((skT (zN zs) (14, 0) [x, y]).1 = false) := rfl
  generalize skT (zN zs) (14, 0) [x, y] = X at *
  have hbB := hS.lt
  have HPR : Hid (Parts w n b lo rest) := hPr
  have HVA : Hid (ValAt w ga av) := hVa
  have HVB : Hid (ValAt w gb bv) := hVb
  have HS : Hid _ := hS
  clear hS hPr hVa hVb hva hvb hla hlb hL hpx hpy hlen
  go_enter Tryz.func69, Tryz.ntmps69
  go_wp2_with fail
  generalize (w.alloc (.cells #[.int .u8 14, .int .u8 0] 61)).alloc (.cells #[.slice none 0 0, .slice none 0 0] 70) = w2 at *
  have hS2 := HS.out.up hw2
  have htk := Tryz.mtake_any b w.heap.size _ _ w2 hS2 (by simp; omega)
  unfold slV at htk
  dsimp only at htk
  have Hsz : Hid _ := hsz
  have HB2 : Hid _ := hw2
  have HBX : Hid _ := hbox
  have HRS : Hid _ := hres
  have HS2 : Hid _ := hS2
  clear hbox hS2 hsz hw2 hres
  refine htk.mono ?_
  rintro e w3 ⟨rfl, hs3, hg3⟩
  have htk2 := Tryz.mtake_any b w.heap.size _ _ (w3.alloc (.cells #[.slice (some ⟨gb, 0, none⟩) (n + 1) (n + 1), .slice q2.1 q2.2.1 q2.2.2] 70)) (hs3.up (below_new _ _)) (by simp; omega)
  unfold slV at htk2
  dsimp only at htk2
  have HG3 : Hid _ := hg3
  have HS3 : Hid _ := hs3
  clear htk hs3 hg3
  go_wp2_with fail
  refine htk2.mono ?_
  rintro e w4 ⟨rfl, hs4, hg4⟩
  have hz2 := Hsz.out
  have hz3 := HG3.out.size
  have hz4 := hg4.size
  have hz4' : w3.heap.size + 1 ≤ w4.heap.size := by simpa using hz4
  have hbx3 := (HG3.out.block w.heap.size (by omega) (fun e => by injection e with e; omega)).trans HBX.out
  have hbx4 := (hg4.block w.heap.size (by simp; omega) (fun e => by injection e with e; omega)).trans ((Below.heap_alloc w3 (.cells #[.slice (some ⟨gb, 0, none⟩) (n + 1) (n + 1), .slice q2.1 q2.2.1 q2.2.2] 70) _ (by omega)).trans hbx3)
  have hrs3 := (HG3.out.block (w.heap.size + 1) (by omega) (fun e => by injection e with e; omega)).trans HRS.out
  have hrs4 := (hg4.block (w.heap.size + 1) (by simp; omega) (fun e => by injection e with e; omega)).trans ((Below.heap_alloc w3 (.cells #[.slice (some ⟨gb, 0, none⟩) (n + 1) (n + 1), .slice q2.1 q2.2.1 q2.2.2] 70) _ (by omega)).trans hrs3)
  have hvb4 := (hg4.block w3.heap.size (by simp) (fun e => by injection e with e; omega)).trans (MapKept.heap_alloc w3 (.cells #[.slice (some ⟨gb, 0, none⟩) (n + 1) (n + 1), .slice q2.1 q2.2.1 q2.2.2] 70)).1
  have hK : KeepT w.heap.size w w4 := by
    obtain ⟨v0, hv0, _⟩ := HS2.out.c
    obtain ⟨v1, hv1, _⟩ := (HS3.out.up (below_new w3 (.cells #[.slice (some ⟨gb, 0, none⟩) (n + 1) (n + 1), .slice q2.1 q2.2.1 q2.2.2] 70))).c
    exact (((KeepT.of_below HB2.out).trans (KeepT.of_grown HG3.out hv0 (by decide) (by decide) (by decide))).trans (KeepT.of_below (below_new _ (.cells #[.slice (some ⟨gb, 0, none⟩) (n + 1) (n + 1), .slice q2.1 q2.2.1 q2.2.2] 70)))).trans (KeepT.of_grown hg4 hv1 (by decide) (by decide) (by decide))
  have hbl : Below b w w4 := by
    have h1 : Below b w2 w3 := ⟨HG3.out.os, HG3.out.tape, HG3.out.output, HG3.out.size, fun k hk => HG3.out.block k (by omega) (fun e => by injection e with e; omega)⟩
    have h2 : Below b (w3.alloc (.cells #[.slice (some ⟨gb, 0, none⟩) (n + 1) (n + 1), .slice q2.1 q2.2.1 q2.2.2] 70)) w4 := ⟨hg4.os, hg4.tape, hg4.output, hg4.size, fun k hk => hg4.block k (by simp; omega) (fun e => by injection e with e; omega)⟩
    exact (((HB2.out.mono (by omega)).trans h1).trans ((below_new _ _).mono (by omega))).trans h2
  have KA : Hid (ValAt w4 ga av) := (hK _ _ _ _ HVA.out (Or.inl rfl)).trans HVA.out
  have KBv : Hid (ValAt w4 gb bv) := (hK _ _ _ _ HVB.out (Or.inl rfl)).trans HVB.out
  have KP : Hid (Parts w4 n b lo rest) := HPR.out.keep (hK.mono (by omega))
  have KB : Hid (Below b w w4) := hbl
  have KS : Hid _ := hs4
  have KR : Hid _ := hrs4
  have cx := cell_row ((Below.heap_alloc w4 (.cells #[.slice (some ⟨ga, 0, none⟩) (n + 1) (n + 1), .slice p2.1 p2.2.1 p2.2.2] 70) _ (by omega)).trans hbx4) 0
  have cb0 := cell_row ((Below.heap_alloc w4 (.cells #[.slice (some ⟨ga, 0, none⟩) (n + 1) (n + 1), .slice p2.1 p2.2.1 p2.2.2] 70) _ (by omega)).trans hvb4) 0
  have cb1 := cell_row ((Below.heap_alloc w4 (.cells #[.slice (some ⟨ga, 0, none⟩) (n + 1) (n + 1), .slice p2.1 p2.2.1 p2.2.2] 70) _ (by omega)).trans hvb4) 1
  simp at cx cb0 cb1
  have hcl := hcall (w4.alloc (.cells #[.slice (some ⟨ga, 0, none⟩) (n + 1) (n + 1), .slice p2.1 p2.2.1 p2.2.2] 70)) (KA.out.up (below_new _ _)) (KBv.out.up (below_new _ _))
  have HZ : Hid (w.heap.size + 2 ≤ w4.heap.size) := by show _ ≤ _; omega
  clear hbx3 hbx4 hrs3 hrs4 hvb4 hK hbl hs4 hg4 hz2 hz3 hz4 hz4' htk2 hcall HG3 HS3 HS2 HRS HBX HB2 Hsz HPR HVA HVB HS KA KBv
  go_wp2_with fail
  refine hcl.mono ?_
  rintro e w6 ⟨g, bs, rfl, hV, hl, hv, hb6, hge⟩
  have hr6 := (hb6.block (w.heap.size + 1) (by have := HZ.out; simp; omega)).trans ((Below.heap_alloc w4 (.cells #[.slice (some ⟨ga, 0, none⟩) (n + 1) (n + 1), .slice p2.1 p2.2.1 p2.2.2] 70) _ (by have := HZ.out; omega)).trans KR.out)
  have K6 := below_step (below_new w4 (.cells #[.slice (some ⟨ga, 0, none⟩) (n + 1) (n + 1), .slice p2.1 p2.2.1 p2.2.2] 70)) hb6
  have c0 := cell_row hr6 0
  have c1 := cell_row hr6 1
  have z0 := frozen_of_row _ _ 0 _ _ hr6
  have z1 := frozen_of_row _ _ 1 _ _ hr6
  simp at c0 c1
  have HR6 : Hid _ := hr6
  have HF : Hid (WorkR n b w X rest (.returned (.agg #[.slice (some ⟨g, 0, none⟩) (n + 1) (n + 1), .slice none 0 0])) ((w6.setCell ⟨w.heap.size + 1, 0, none⟩ (.slice (some ⟨g, 0, none⟩) (n + 1) (n + 1))).setCell ⟨w.heap.size + 1, 1, none⟩ (.slice none 0 0))) :=
    fin_val (KS.out.up K6) (KP.out.keep (KeepT.of_below K6)) hr6 (KB.out.trans (K6.mono (by have := HZ.out; omega))) hV hl HTY.out (fun i hi => (hv i hi).trans (HSEM.out i)) (by have := HZ.out; have := K6.size; omega) (by have := HZ.out; simp at hge; omega)
  clear hge hV hl hv hb6 hr6 K6 hcl KS KP KR KB cx cb0 cb1
  go_wp2
  have f := set2_cells HR6.out (.slice (some ⟨g, 0, none⟩) (n + 1) (n + 1)) (.slice none 0 0)
  refine bodyPost_ret (v := .agg #[.slice (some ⟨g, 0, none⟩) (n + 1) (n + 1), .slice none 0 0]) (by simp [results, Tryz.results69, go_sem, f.1, f.2.1]) rfl ?_
  exact HF.out
set_option maxRecDepth 100000 in
set_option maxHeartbeats 6400000 in
theorem Tryz.mwork15_any (b n c hi : Nat) (d : Option Addr) (zs : List Int) (x y : Sk) (px py : Mp) (rest : List (Sk × Mp)) (w : World) (hL : LtSl w d n c zs) (hn : n ≤ 10000) (hS : StkAt w b w.heap.size ((((y, py) :: (x, px) :: rest).map (·.2)).reverse)) (hP : Parts w n b hi ((y, py) :: (x, px) :: rest)) (hh : hi ≤ w.heap.size) (hx : x.1 = false) (hy : y.1 = false) (hr : rest.length ≤ 999999) :
    Calls Tryz.prog 69 #[.pointer (some ⟨b, 0, none⟩), .agg #[.int .u8 15, .int .u8 0], .slice d n c] w (WorkR n b w (skT (zN zs) (15, 0) [x, y]) rest) := by
  have hlen : (zN zs).length = n := by rw [zN_len]; exact hL.sl.hlen
  obtain ⟨lo2, hpy, hlo2, lo, hpx, hlo, hPr⟩ := hP
  have hblo := Parts.low hPr
  obtain ⟨p1, p2⟩ := px
  obtain ⟨q1, q2⟩ := py
  rw [List.map_cons, List.reverse_cons, List.map_cons, List.reverse_cons] at hS
  dsimp only at hS
  obtain ⟨ga, av, hp1, hVa, hla, hva, _⟩ := hpx.2 hx
  dsimp only at hp1
  subst hp1
  obtain ⟨gb, bv, hq1, hVb, hlb, hvb, _⟩ := hpy.2 hy
  dsimp only at hq1
  subst hq1
  have hw1 := below_new w (.cells #[.int .u8 15, .int .u8 0] 61)
  have hw2 := below_step hw1 (below_new (w.alloc (.cells #[.int .u8 15, .int .u8 0] 61)) (.cells #[.slice none 0 0, .slice none 0 0] 70))
  have hbox := (Below.heap_alloc (w.alloc (.cells #[.int .u8 15, .int .u8 0] 61)) (.cells #[.slice none 0 0, .slice none 0 0] 70) w.heap.size (by simp)).trans (MapKept.heap_alloc w _).1
  have hres := (MapKept.heap_alloc (w.alloc (.cells #[.int .u8 15, .int .u8 0] 61)) (.cells #[.slice none 0 0, .slice none 0 0] 70)).1
  have hsz : ((w.alloc (.cells #[.int .u8 15, .int .u8 0] 61)).alloc (.cells #[.slice none 0 0, .slice none 0 0] 70)).heap.size = w.heap.size + 2 := by simp
  rw [show (w.alloc (.cells #[.int .u8 15, .int .u8 0] 61)).heap.size = w.heap.size + 1 by simp] at hres
  clear hw1
  have HSEM : Hid (∀ i, binV n 15 (x.2.1, fun _ _ => False) (y.2.1, fun _ _ => False) i ↔ (skT (zN zs) (15, 0) [x, y]).2.1 i) := fun i => sem_two (by omega) hlen i
  have hcall := fun W (h1 : ValAt W ga av) (h2 : ValAt W gb bv) => Tryz.mtwo15_any n ga gb av bv x.2.1 y.2.1 W h1 h2 hla hlb hva hvb hn
  generalize binV n 15 (x.2.1, fun _ _ => False) (y.2.1, fun _ _ => False) = VV at *
  have HTY : Hid ((skT (zN zs) (15, 0) [x, y]).1 = false) := rfl
  generalize skT (zN zs) (15, 0) [x, y] = X at *
  have hbB := hS.lt
  have HPR : Hid (Parts w n b lo rest) := hPr
  have HVA : Hid (ValAt w ga av) := hVa
  have HVB : Hid (ValAt w gb bv) := hVb
  have HS : Hid _ := hS
  clear hS hPr hVa hVb hva hvb hla hlb hL hpx hpy hlen
  go_enter Tryz.func69, Tryz.ntmps69
  go_wp2_with fail
  generalize (w.alloc (.cells #[.int .u8 15, .int .u8 0] 61)).alloc (.cells #[.slice none 0 0, .slice none 0 0] 70) = w2 at *
  have hS2 := HS.out.up hw2
  have htk := Tryz.mtake_any b w.heap.size _ _ w2 hS2 (by simp; omega)
  unfold slV at htk
  dsimp only at htk
  have Hsz : Hid _ := hsz
  have HB2 : Hid _ := hw2
  have HBX : Hid _ := hbox
  have HRS : Hid _ := hres
  have HS2 : Hid _ := hS2
  clear hbox hS2 hsz hw2 hres
  refine htk.mono ?_
  rintro e w3 ⟨rfl, hs3, hg3⟩
  have htk2 := Tryz.mtake_any b w.heap.size _ _ (w3.alloc (.cells #[.slice (some ⟨gb, 0, none⟩) (n + 1) (n + 1), .slice q2.1 q2.2.1 q2.2.2] 70)) (hs3.up (below_new _ _)) (by simp; omega)
  unfold slV at htk2
  dsimp only at htk2
  have HG3 : Hid _ := hg3
  have HS3 : Hid _ := hs3
  clear htk hs3 hg3
  go_wp2_with fail
  refine htk2.mono ?_
  rintro e w4 ⟨rfl, hs4, hg4⟩
  have hz2 := Hsz.out
  have hz3 := HG3.out.size
  have hz4 := hg4.size
  have hz4' : w3.heap.size + 1 ≤ w4.heap.size := by simpa using hz4
  have hbx3 := (HG3.out.block w.heap.size (by omega) (fun e => by injection e with e; omega)).trans HBX.out
  have hbx4 := (hg4.block w.heap.size (by simp; omega) (fun e => by injection e with e; omega)).trans ((Below.heap_alloc w3 (.cells #[.slice (some ⟨gb, 0, none⟩) (n + 1) (n + 1), .slice q2.1 q2.2.1 q2.2.2] 70) _ (by omega)).trans hbx3)
  have hrs3 := (HG3.out.block (w.heap.size + 1) (by omega) (fun e => by injection e with e; omega)).trans HRS.out
  have hrs4 := (hg4.block (w.heap.size + 1) (by simp; omega) (fun e => by injection e with e; omega)).trans ((Below.heap_alloc w3 (.cells #[.slice (some ⟨gb, 0, none⟩) (n + 1) (n + 1), .slice q2.1 q2.2.1 q2.2.2] 70) _ (by omega)).trans hrs3)
  have hvb4 := (hg4.block w3.heap.size (by simp) (fun e => by injection e with e; omega)).trans (MapKept.heap_alloc w3 (.cells #[.slice (some ⟨gb, 0, none⟩) (n + 1) (n + 1), .slice q2.1 q2.2.1 q2.2.2] 70)).1
  have hK : KeepT w.heap.size w w4 := by
    obtain ⟨v0, hv0, _⟩ := HS2.out.c
    obtain ⟨v1, hv1, _⟩ := (HS3.out.up (below_new w3 (.cells #[.slice (some ⟨gb, 0, none⟩) (n + 1) (n + 1), .slice q2.1 q2.2.1 q2.2.2] 70))).c
    exact (((KeepT.of_below HB2.out).trans (KeepT.of_grown HG3.out hv0 (by decide) (by decide) (by decide))).trans (KeepT.of_below (below_new _ (.cells #[.slice (some ⟨gb, 0, none⟩) (n + 1) (n + 1), .slice q2.1 q2.2.1 q2.2.2] 70)))).trans (KeepT.of_grown hg4 hv1 (by decide) (by decide) (by decide))
  have hbl : Below b w w4 := by
    have h1 : Below b w2 w3 := ⟨HG3.out.os, HG3.out.tape, HG3.out.output, HG3.out.size, fun k hk => HG3.out.block k (by omega) (fun e => by injection e with e; omega)⟩
    have h2 : Below b (w3.alloc (.cells #[.slice (some ⟨gb, 0, none⟩) (n + 1) (n + 1), .slice q2.1 q2.2.1 q2.2.2] 70)) w4 := ⟨hg4.os, hg4.tape, hg4.output, hg4.size, fun k hk => hg4.block k (by simp; omega) (fun e => by injection e with e; omega)⟩
    exact (((HB2.out.mono (by omega)).trans h1).trans ((below_new _ _).mono (by omega))).trans h2
  have KA : Hid (ValAt w4 ga av) := (hK _ _ _ _ HVA.out (Or.inl rfl)).trans HVA.out
  have KBv : Hid (ValAt w4 gb bv) := (hK _ _ _ _ HVB.out (Or.inl rfl)).trans HVB.out
  have KP : Hid (Parts w4 n b lo rest) := HPR.out.keep (hK.mono (by omega))
  have KB : Hid (Below b w w4) := hbl
  have KS : Hid _ := hs4
  have KR : Hid _ := hrs4
  have cx := cell_row ((Below.heap_alloc w4 (.cells #[.slice (some ⟨ga, 0, none⟩) (n + 1) (n + 1), .slice p2.1 p2.2.1 p2.2.2] 70) _ (by omega)).trans hbx4) 0
  have cb0 := cell_row ((Below.heap_alloc w4 (.cells #[.slice (some ⟨ga, 0, none⟩) (n + 1) (n + 1), .slice p2.1 p2.2.1 p2.2.2] 70) _ (by omega)).trans hvb4) 0
  have cb1 := cell_row ((Below.heap_alloc w4 (.cells #[.slice (some ⟨ga, 0, none⟩) (n + 1) (n + 1), .slice p2.1 p2.2.1 p2.2.2] 70) _ (by omega)).trans hvb4) 1
  simp at cx cb0 cb1
  have hcl := hcall (w4.alloc (.cells #[.slice (some ⟨ga, 0, none⟩) (n + 1) (n + 1), .slice p2.1 p2.2.1 p2.2.2] 70)) (KA.out.up (below_new _ _)) (KBv.out.up (below_new _ _))
  have HZ : Hid (w.heap.size + 2 ≤ w4.heap.size) := by show _ ≤ _; omega
  clear hbx3 hbx4 hrs3 hrs4 hvb4 hK hbl hs4 hg4 hz2 hz3 hz4 hz4' htk2 hcall HG3 HS3 HS2 HRS HBX HB2 Hsz HPR HVA HVB HS KA KBv
  go_wp2_with fail
  refine hcl.mono ?_
  rintro e w6 ⟨g, bs, rfl, hV, hl, hv, hb6, hge⟩
  have hr6 := (hb6.block (w.heap.size + 1) (by have := HZ.out; simp; omega)).trans ((Below.heap_alloc w4 (.cells #[.slice (some ⟨ga, 0, none⟩) (n + 1) (n + 1), .slice p2.1 p2.2.1 p2.2.2] 70) _ (by have := HZ.out; omega)).trans KR.out)
  have K6 := below_step (below_new w4 (.cells #[.slice (some ⟨ga, 0, none⟩) (n + 1) (n + 1), .slice p2.1 p2.2.1 p2.2.2] 70)) hb6
  have c0 := cell_row hr6 0
  have c1 := cell_row hr6 1
  have z0 := frozen_of_row _ _ 0 _ _ hr6
  have z1 := frozen_of_row _ _ 1 _ _ hr6
  simp at c0 c1
  have HR6 : Hid _ := hr6
  have HF : Hid (WorkR n b w X rest (.returned (.agg #[.slice (some ⟨g, 0, none⟩) (n + 1) (n + 1), .slice none 0 0])) ((w6.setCell ⟨w.heap.size + 1, 0, none⟩ (.slice (some ⟨g, 0, none⟩) (n + 1) (n + 1))).setCell ⟨w.heap.size + 1, 1, none⟩ (.slice none 0 0))) :=
    fin_val (KS.out.up K6) (KP.out.keep (KeepT.of_below K6)) hr6 (KB.out.trans (K6.mono (by have := HZ.out; omega))) hV hl HTY.out (fun i hi => (hv i hi).trans (HSEM.out i)) (by have := HZ.out; have := K6.size; omega) (by have := HZ.out; simp at hge; omega)
  clear hge hV hl hv hb6 hr6 K6 hcl KS KP KR KB cx cb0 cb1
  go_wp2
  have f := set2_cells HR6.out (.slice (some ⟨g, 0, none⟩) (n + 1) (n + 1)) (.slice none 0 0)
  refine bodyPost_ret (v := .agg #[.slice (some ⟨g, 0, none⟩) (n + 1) (n + 1), .slice none 0 0]) (by simp [results, Tryz.results69, go_sem, f.1, f.2.1]) rfl ?_
  exact HF.out
set_option maxRecDepth 100000 in
set_option maxHeartbeats 6400000 in
theorem Tryz.mwork16_any (b n c hi : Nat) (d : Option Addr) (zs : List Int) (x y : Sk) (px py : Mp) (rest : List (Sk × Mp)) (w : World) (hL : LtSl w d n c zs) (hn : n ≤ 10000) (hS : StkAt w b w.heap.size ((((y, py) :: (x, px) :: rest).map (·.2)).reverse)) (hP : Parts w n b hi ((y, py) :: (x, px) :: rest)) (hh : hi ≤ w.heap.size) (hx : x.1 = false) (hy : y.1 = false) (hr : rest.length ≤ 999999) :
    Calls Tryz.prog 69 #[.pointer (some ⟨b, 0, none⟩), .agg #[.int .u8 16, .int .u8 0], .slice d n c] w (WorkR n b w (skT (zN zs) (16, 0) [x, y]) rest) := by
  have hlen : (zN zs).length = n := by rw [zN_len]; exact hL.sl.hlen
  obtain ⟨lo2, hpy, hlo2, lo, hpx, hlo, hPr⟩ := hP
  have hblo := Parts.low hPr
  obtain ⟨p1, p2⟩ := px
  obtain ⟨q1, q2⟩ := py
  rw [List.map_cons, List.reverse_cons, List.map_cons, List.reverse_cons] at hS
  dsimp only at hS
  obtain ⟨ga, av, hp1, hVa, hla, hva, _⟩ := hpx.2 hx
  dsimp only at hp1
  subst hp1
  obtain ⟨gb, bv, hq1, hVb, hlb, hvb, _⟩ := hpy.2 hy
  dsimp only at hq1
  subst hq1
  have hw1 := below_new w (.cells #[.int .u8 16, .int .u8 0] 61)
  have hw2 := below_step hw1 (below_new (w.alloc (.cells #[.int .u8 16, .int .u8 0] 61)) (.cells #[.slice none 0 0, .slice none 0 0] 70))
  have hbox := (Below.heap_alloc (w.alloc (.cells #[.int .u8 16, .int .u8 0] 61)) (.cells #[.slice none 0 0, .slice none 0 0] 70) w.heap.size (by simp)).trans (MapKept.heap_alloc w _).1
  have hres := (MapKept.heap_alloc (w.alloc (.cells #[.int .u8 16, .int .u8 0] 61)) (.cells #[.slice none 0 0, .slice none 0 0] 70)).1
  have hsz : ((w.alloc (.cells #[.int .u8 16, .int .u8 0] 61)).alloc (.cells #[.slice none 0 0, .slice none 0 0] 70)).heap.size = w.heap.size + 2 := by simp
  rw [show (w.alloc (.cells #[.int .u8 16, .int .u8 0] 61)).heap.size = w.heap.size + 1 by simp] at hres
  clear hw1
  have HSEM : Hid (∀ i, binV n 16 (x.2.1, fun _ _ => False) (y.2.1, fun _ _ => False) i ↔ (skT (zN zs) (16, 0) [x, y]).2.1 i) := fun i => sem_two (by omega) hlen i
  have hcall := fun W (h1 : ValAt W ga av) (h2 : ValAt W gb bv) => Tryz.mtwo16_any n ga gb av bv x.2.1 y.2.1 W h1 h2 hla hlb hva hvb hn
  generalize binV n 16 (x.2.1, fun _ _ => False) (y.2.1, fun _ _ => False) = VV at *
  have HTY : Hid ((skT (zN zs) (16, 0) [x, y]).1 = false) := rfl
  generalize skT (zN zs) (16, 0) [x, y] = X at *
  have hbB := hS.lt
  have HPR : Hid (Parts w n b lo rest) := hPr
  have HVA : Hid (ValAt w ga av) := hVa
  have HVB : Hid (ValAt w gb bv) := hVb
  have HS : Hid _ := hS
  clear hS hPr hVa hVb hva hvb hla hlb hL hpx hpy hlen
  go_enter Tryz.func69, Tryz.ntmps69
  go_wp2_with fail
  generalize (w.alloc (.cells #[.int .u8 16, .int .u8 0] 61)).alloc (.cells #[.slice none 0 0, .slice none 0 0] 70) = w2 at *
  have hS2 := HS.out.up hw2
  have htk := Tryz.mtake_any b w.heap.size _ _ w2 hS2 (by simp; omega)
  unfold slV at htk
  dsimp only at htk
  have Hsz : Hid _ := hsz
  have HB2 : Hid _ := hw2
  have HBX : Hid _ := hbox
  have HRS : Hid _ := hres
  have HS2 : Hid _ := hS2
  clear hbox hS2 hsz hw2 hres
  refine htk.mono ?_
  rintro e w3 ⟨rfl, hs3, hg3⟩
  have htk2 := Tryz.mtake_any b w.heap.size _ _ (w3.alloc (.cells #[.slice (some ⟨gb, 0, none⟩) (n + 1) (n + 1), .slice q2.1 q2.2.1 q2.2.2] 70)) (hs3.up (below_new _ _)) (by simp; omega)
  unfold slV at htk2
  dsimp only at htk2
  have HG3 : Hid _ := hg3
  have HS3 : Hid _ := hs3
  clear htk hs3 hg3
  go_wp2_with fail
  refine htk2.mono ?_
  rintro e w4 ⟨rfl, hs4, hg4⟩
  have hz2 := Hsz.out
  have hz3 := HG3.out.size
  have hz4 := hg4.size
  have hz4' : w3.heap.size + 1 ≤ w4.heap.size := by simpa using hz4
  have hbx3 := (HG3.out.block w.heap.size (by omega) (fun e => by injection e with e; omega)).trans HBX.out
  have hbx4 := (hg4.block w.heap.size (by simp; omega) (fun e => by injection e with e; omega)).trans ((Below.heap_alloc w3 (.cells #[.slice (some ⟨gb, 0, none⟩) (n + 1) (n + 1), .slice q2.1 q2.2.1 q2.2.2] 70) _ (by omega)).trans hbx3)
  have hrs3 := (HG3.out.block (w.heap.size + 1) (by omega) (fun e => by injection e with e; omega)).trans HRS.out
  have hrs4 := (hg4.block (w.heap.size + 1) (by simp; omega) (fun e => by injection e with e; omega)).trans ((Below.heap_alloc w3 (.cells #[.slice (some ⟨gb, 0, none⟩) (n + 1) (n + 1), .slice q2.1 q2.2.1 q2.2.2] 70) _ (by omega)).trans hrs3)
  have hvb4 := (hg4.block w3.heap.size (by simp) (fun e => by injection e with e; omega)).trans (MapKept.heap_alloc w3 (.cells #[.slice (some ⟨gb, 0, none⟩) (n + 1) (n + 1), .slice q2.1 q2.2.1 q2.2.2] 70)).1
  have hK : KeepT w.heap.size w w4 := by
    obtain ⟨v0, hv0, _⟩ := HS2.out.c
    obtain ⟨v1, hv1, _⟩ := (HS3.out.up (below_new w3 (.cells #[.slice (some ⟨gb, 0, none⟩) (n + 1) (n + 1), .slice q2.1 q2.2.1 q2.2.2] 70))).c
    exact (((KeepT.of_below HB2.out).trans (KeepT.of_grown HG3.out hv0 (by decide) (by decide) (by decide))).trans (KeepT.of_below (below_new _ (.cells #[.slice (some ⟨gb, 0, none⟩) (n + 1) (n + 1), .slice q2.1 q2.2.1 q2.2.2] 70)))).trans (KeepT.of_grown hg4 hv1 (by decide) (by decide) (by decide))
  have hbl : Below b w w4 := by
    have h1 : Below b w2 w3 := ⟨HG3.out.os, HG3.out.tape, HG3.out.output, HG3.out.size, fun k hk => HG3.out.block k (by omega) (fun e => by injection e with e; omega)⟩
    have h2 : Below b (w3.alloc (.cells #[.slice (some ⟨gb, 0, none⟩) (n + 1) (n + 1), .slice q2.1 q2.2.1 q2.2.2] 70)) w4 := ⟨hg4.os, hg4.tape, hg4.output, hg4.size, fun k hk => hg4.block k (by simp; omega) (fun e => by injection e with e; omega)⟩
    exact (((HB2.out.mono (by omega)).trans h1).trans ((below_new _ _).mono (by omega))).trans h2
  have KA : Hid (ValAt w4 ga av) := (hK _ _ _ _ HVA.out (Or.inl rfl)).trans HVA.out
  have KBv : Hid (ValAt w4 gb bv) := (hK _ _ _ _ HVB.out (Or.inl rfl)).trans HVB.out
  have KP : Hid (Parts w4 n b lo rest) := HPR.out.keep (hK.mono (by omega))
  have KB : Hid (Below b w w4) := hbl
  have KS : Hid _ := hs4
  have KR : Hid _ := hrs4
  have cx := cell_row ((Below.heap_alloc w4 (.cells #[.slice (some ⟨ga, 0, none⟩) (n + 1) (n + 1), .slice p2.1 p2.2.1 p2.2.2] 70) _ (by omega)).trans hbx4) 0
  have cb0 := cell_row ((Below.heap_alloc w4 (.cells #[.slice (some ⟨ga, 0, none⟩) (n + 1) (n + 1), .slice p2.1 p2.2.1 p2.2.2] 70) _ (by omega)).trans hvb4) 0
  have cb1 := cell_row ((Below.heap_alloc w4 (.cells #[.slice (some ⟨ga, 0, none⟩) (n + 1) (n + 1), .slice p2.1 p2.2.1 p2.2.2] 70) _ (by omega)).trans hvb4) 1
  simp at cx cb0 cb1
  have hcl := hcall (w4.alloc (.cells #[.slice (some ⟨ga, 0, none⟩) (n + 1) (n + 1), .slice p2.1 p2.2.1 p2.2.2] 70)) (KA.out.up (below_new _ _)) (KBv.out.up (below_new _ _))
  have HZ : Hid (w.heap.size + 2 ≤ w4.heap.size) := by show _ ≤ _; omega
  clear hbx3 hbx4 hrs3 hrs4 hvb4 hK hbl hs4 hg4 hz2 hz3 hz4 hz4' htk2 hcall HG3 HS3 HS2 HRS HBX HB2 Hsz HPR HVA HVB HS KA KBv
  go_wp2_with fail
  refine hcl.mono ?_
  rintro e w6 ⟨g, bs, rfl, hV, hl, hv, hb6, hge⟩
  have hr6 := (hb6.block (w.heap.size + 1) (by have := HZ.out; simp; omega)).trans ((Below.heap_alloc w4 (.cells #[.slice (some ⟨ga, 0, none⟩) (n + 1) (n + 1), .slice p2.1 p2.2.1 p2.2.2] 70) _ (by have := HZ.out; omega)).trans KR.out)
  have K6 := below_step (below_new w4 (.cells #[.slice (some ⟨ga, 0, none⟩) (n + 1) (n + 1), .slice p2.1 p2.2.1 p2.2.2] 70)) hb6
  have c0 := cell_row hr6 0
  have c1 := cell_row hr6 1
  have z0 := frozen_of_row _ _ 0 _ _ hr6
  have z1 := frozen_of_row _ _ 1 _ _ hr6
  simp at c0 c1
  have HR6 : Hid _ := hr6
  have HF : Hid (WorkR n b w X rest (.returned (.agg #[.slice (some ⟨g, 0, none⟩) (n + 1) (n + 1), .slice none 0 0])) ((w6.setCell ⟨w.heap.size + 1, 0, none⟩ (.slice (some ⟨g, 0, none⟩) (n + 1) (n + 1))).setCell ⟨w.heap.size + 1, 1, none⟩ (.slice none 0 0))) :=
    fin_val (KS.out.up K6) (KP.out.keep (KeepT.of_below K6)) hr6 (KB.out.trans (K6.mono (by have := HZ.out; omega))) hV hl HTY.out (fun i hi => (hv i hi).trans (HSEM.out i)) (by have := HZ.out; have := K6.size; omega) (by have := HZ.out; simp at hge; omega)
  clear hge hV hl hv hb6 hr6 K6 hcl KS KP KR KB cx cb0 cb1
  go_wp2
  have f := set2_cells HR6.out (.slice (some ⟨g, 0, none⟩) (n + 1) (n + 1)) (.slice none 0 0)
  refine bodyPost_ret (v := .agg #[.slice (some ⟨g, 0, none⟩) (n + 1) (n + 1), .slice none 0 0]) (by simp [results, Tryz.results69, go_sem, f.1, f.2.1]) rfl ?_
  exact HF.out
end Go.Proofs.YtejekdenpefoiaaGreatDoor
namespace Go.Proofs.YtejekdenpefoiaaGreatDoor
open Go.RowKit Go.Maps
set_option maxRecDepth 100000 in
set_option maxHeartbeats 6400000 in
theorem Tryz.mwork17_any (b n c hi : Nat) (d : Option Addr) (zs : List Int) (x y : Sk) (px py : Mp) (rest : List (Sk × Mp)) (w : World) (hL : LtSl w d n c zs) (hn : n ≤ 10000) (hS : StkAt w b w.heap.size ((((y, py) :: (x, px) :: rest).map (·.2)).reverse)) (hP : Parts w n b hi ((y, py) :: (x, px) :: rest)) (hh : hi ≤ w.heap.size) (hx : x.1 = true) (hy : y.1 = false) (hI : InW n x) (hr : rest.length ≤ 999999) :
    Calls Tryz.prog 69 #[.pointer (some ⟨b, 0, none⟩), .agg #[.int .u8 17, .int .u8 0], .slice d n c] w (WorkR n b w (skT (zN zs) (17, 0) [x, y]) rest) := by
  have hlen : (zN zs).length = n := by rw [zN_len]; exact hL.sl.hlen
  obtain ⟨lo2, hpy, hlo2, lo, hpx, hlo, hPr⟩ := hP
  have hblo := Parts.low hPr
  obtain ⟨p1, p2⟩ := px
  obtain ⟨q1, q2⟩ := py
  rw [List.map_cons, List.reverse_cons, List.map_cons, List.reverse_cons] at hS
  dsimp only at hS
  obtain ⟨ga, rs, hp1, hEa, hva, hga1, hga2⟩ := hpx.1 hx
  dsimp only at hp1
  subst hp1
  obtain ⟨gb, bv, hq1, hVb, hlb, hvb, _⟩ := hpy.2 hy
  dsimp only at hq1
  subst hq1
  have hw1 := below_new w (.cells #[.int .u8 17, .int .u8 0] 61)
  have hw2 := below_step hw1 (below_new (w.alloc (.cells #[.int .u8 17, .int .u8 0] 61)) (.cells #[.slice none 0 0, .slice none 0 0] 70))
  have hbox := (Below.heap_alloc (w.alloc (.cells #[.int .u8 17, .int .u8 0] 61)) (.cells #[.slice none 0 0, .slice none 0 0] 70) w.heap.size (by simp)).trans (MapKept.heap_alloc w _).1
  have hres := (MapKept.heap_alloc (w.alloc (.cells #[.int .u8 17, .int .u8 0] 61)) (.cells #[.slice none 0 0, .slice none 0 0] 70)).1
  have hsz : ((w.alloc (.cells #[.int .u8 17, .int .u8 0] 61)).alloc (.cells #[.slice none 0 0, .slice none 0 0] 70)).heap.size = w.heap.size + 2 := by simp
  rw [show (w.alloc (.cells #[.int .u8 17, .int .u8 0] 61)).heap.size = w.heap.size + 1 by simp] at hres
  clear hw1
  have HSEM : Hid (∀ i, i ≤ n → (someP rs bv i (n + 1) ↔ (skT (zN zs) (17, 0) [x, y]).2.1 i)) := sem_dia hI hva hvb
  have hcall := fun W (h1 : EndAt W ga (n + 1) rs) (h2 : ValAt W gb bv) => Tryz.msomeWay_any n ga gb rs bv W h1 h2 hlb hn
  have HTY : Hid ((skT (zN zs) (17, 0) [x, y]).1 = false) := rfl
  generalize skT (zN zs) (17, 0) [x, y] = X at *
  have hbB := hS.lt
  have HPR : Hid (Parts w n b lo rest) := hPr
  have HVA : Hid (EndAt w ga (n + 1) rs) := hEa
  have HVB : Hid (ValAt w gb bv) := hVb
  have HS : Hid _ := hS
  clear hS hPr hEa hVb hva hvb hlb hL hpx hpy hlen
  go_enter Tryz.func69, Tryz.ntmps69
  go_wp2_with fail
  generalize (w.alloc (.cells #[.int .u8 17, .int .u8 0] 61)).alloc (.cells #[.slice none 0 0, .slice none 0 0] 70) = w2 at *
  have hS2 := HS.out.up hw2
  have htk := Tryz.mtake_any b w.heap.size _ _ w2 hS2 (by simp; omega)
  unfold slV at htk
  dsimp only at htk
  have Hsz : Hid _ := hsz
  have HB2 : Hid _ := hw2
  have HBX : Hid _ := hbox
  have HRS : Hid _ := hres
  have HS2 : Hid _ := hS2
  clear hbox hS2 hsz hw2 hres
  refine htk.mono ?_
  rintro e w3 ⟨rfl, hs3, hg3⟩
  have htk2 := Tryz.mtake_any b w.heap.size _ _ (w3.alloc (.cells #[.slice (some ⟨gb, 0, none⟩) (n + 1) (n + 1), .slice q2.1 q2.2.1 q2.2.2] 70)) (hs3.up (below_new _ _)) (by simp; omega)
  unfold slV at htk2
  dsimp only at htk2
  have HG3 : Hid _ := hg3
  have HS3 : Hid _ := hs3
  clear htk hs3 hg3
  go_wp2_with fail
  refine htk2.mono ?_
  rintro e w4 ⟨rfl, hs4, hg4⟩
  have hz2 := Hsz.out
  have hz3 := HG3.out.size
  have hz4 := hg4.size
  have hz4' : w3.heap.size + 1 ≤ w4.heap.size := by simpa using hz4
  have hbx3 := (HG3.out.block w.heap.size (by omega) (fun e => by injection e with e; omega)).trans HBX.out
  have hbx4 := (hg4.block w.heap.size (by simp; omega) (fun e => by injection e with e; omega)).trans ((Below.heap_alloc w3 (.cells #[.slice (some ⟨gb, 0, none⟩) (n + 1) (n + 1), .slice q2.1 q2.2.1 q2.2.2] 70) _ (by omega)).trans hbx3)
  have hrs3 := (HG3.out.block (w.heap.size + 1) (by omega) (fun e => by injection e with e; omega)).trans HRS.out
  have hrs4 := (hg4.block (w.heap.size + 1) (by simp; omega) (fun e => by injection e with e; omega)).trans ((Below.heap_alloc w3 (.cells #[.slice (some ⟨gb, 0, none⟩) (n + 1) (n + 1), .slice q2.1 q2.2.1 q2.2.2] 70) _ (by omega)).trans hrs3)
  have hvb4 := (hg4.block w3.heap.size (by simp) (fun e => by injection e with e; omega)).trans (MapKept.heap_alloc w3 (.cells #[.slice (some ⟨gb, 0, none⟩) (n + 1) (n + 1), .slice q2.1 q2.2.1 q2.2.2] 70)).1
  have hK : KeepT w.heap.size w w4 := by
    obtain ⟨v0, hv0, _⟩ := HS2.out.c
    obtain ⟨v1, hv1, _⟩ := (HS3.out.up (below_new w3 (.cells #[.slice (some ⟨gb, 0, none⟩) (n + 1) (n + 1), .slice q2.1 q2.2.1 q2.2.2] 70))).c
    exact (((KeepT.of_below HB2.out).trans (KeepT.of_grown HG3.out hv0 (by decide) (by decide) (by decide))).trans (KeepT.of_below (below_new _ (.cells #[.slice (some ⟨gb, 0, none⟩) (n + 1) (n + 1), .slice q2.1 q2.2.1 q2.2.2] 70)))).trans (KeepT.of_grown hg4 hv1 (by decide) (by decide) (by decide))
  have hbl : Below b w w4 := by
    have h1 : Below b w2 w3 := ⟨HG3.out.os, HG3.out.tape, HG3.out.output, HG3.out.size, fun k hk => HG3.out.block k (by omega) (fun e => by injection e with e; omega)⟩
    have h2 : Below b (w3.alloc (.cells #[.slice (some ⟨gb, 0, none⟩) (n + 1) (n + 1), .slice q2.1 q2.2.1 q2.2.2] 70)) w4 := ⟨hg4.os, hg4.tape, hg4.output, hg4.size, fun k hk => hg4.block k (by simp; omega) (fun e => by injection e with e; omega)⟩
    exact (((HB2.out.mono (by omega)).trans h1).trans ((below_new _ _).mono (by omega))).trans h2
  have KA : Hid (EndAt w4 ga (n + 1) rs) := HVA.out.keep (fun k c t z hc ht h1 h2 => hK k c t z hc (Or.inr ⟨ht, by omega⟩))
  have KBv : Hid (ValAt w4 gb bv) := (hK _ _ _ _ HVB.out (Or.inl rfl)).trans HVB.out
  have KP : Hid (Parts w4 n b lo rest) := HPR.out.keep (hK.mono (by omega))
  have KB : Hid (Below b w w4) := hbl
  have KS : Hid _ := hs4
  have KR : Hid _ := hrs4
  have cx := cell_row ((Below.heap_alloc w4 (.cells #[.slice p1.1 p1.2.1 p1.2.2, .slice (some ⟨ga, 0, none⟩) (n + 1) (n + 1)] 70) _ (by omega)).trans hbx4) 0
  have cb0 := cell_row ((Below.heap_alloc w4 (.cells #[.slice p1.1 p1.2.1 p1.2.2, .slice (some ⟨ga, 0, none⟩) (n + 1) (n + 1)] 70) _ (by omega)).trans hvb4) 0
  have cb1 := cell_row ((Below.heap_alloc w4 (.cells #[.slice p1.1 p1.2.1 p1.2.2, .slice (some ⟨ga, 0, none⟩) (n + 1) (n + 1)] 70) _ (by omega)).trans hvb4) 1
  simp at cx cb0 cb1
  have hcl := hcall (w4.alloc (.cells #[.slice p1.1 p1.2.1 p1.2.2, .slice (some ⟨ga, 0, none⟩) (n + 1) (n + 1)] 70)) (KA.out.up (below_new _ _)) (KBv.out.up (below_new _ _))
  have HZ : Hid (w.heap.size + 2 ≤ w4.heap.size) := by show _ ≤ _; omega
  clear hbx3 hbx4 hrs3 hrs4 hvb4 hK hbl hs4 hg4 hz2 hz3 hz4 hz4' htk2 hcall HG3 HS3 HS2 HRS HBX HB2 Hsz HPR HVA HVB HS KA KBv
  go_wp2_with fail
  refine hcl.mono ?_
  rintro e w6 ⟨g, bs, rfl, hV, hl, hv, hb6, hge⟩
  have hr6 := (hb6.block (w.heap.size + 1) (by have := HZ.out; simp; omega)).trans ((Below.heap_alloc w4 (.cells #[.slice p1.1 p1.2.1 p1.2.2, .slice (some ⟨ga, 0, none⟩) (n + 1) (n + 1)] 70) _ (by have := HZ.out; omega)).trans KR.out)
  have K6 := below_step (below_new w4 (.cells #[.slice p1.1 p1.2.1 p1.2.2, .slice (some ⟨ga, 0, none⟩) (n + 1) (n + 1)] 70)) hb6
  have c0 := cell_row hr6 0
  have c1 := cell_row hr6 1
  have z0 := frozen_of_row _ _ 0 _ _ hr6
  have z1 := frozen_of_row _ _ 1 _ _ hr6
  simp at c0 c1
  have HR6 : Hid _ := hr6
  have HF : Hid (WorkR n b w X rest (.returned (.agg #[.slice (some ⟨g, 0, none⟩) (n + 1) (n + 1), .slice none 0 0])) ((w6.setCell ⟨w.heap.size + 1, 0, none⟩ (.slice (some ⟨g, 0, none⟩) (n + 1) (n + 1))).setCell ⟨w.heap.size + 1, 1, none⟩ (.slice none 0 0))) :=
    fin_val (KS.out.up K6) (KP.out.keep (KeepT.of_below K6)) hr6 (KB.out.trans (K6.mono (by have := HZ.out; omega))) hV hl HTY.out (fun i hi => (hv i hi).trans (HSEM.out i hi)) (by have := HZ.out; have := K6.size; omega) (by have := HZ.out; simp at hge; omega)
  clear hge hV hl hv hb6 hr6 K6 hcl KS KP KR KB cx cb0 cb1
  go_wp2
  have f := set2_cells HR6.out (.slice (some ⟨g, 0, none⟩) (n + 1) (n + 1)) (.slice none 0 0)
  refine bodyPost_ret (v := .agg #[.slice (some ⟨g, 0, none⟩) (n + 1) (n + 1), .slice none 0 0]) (by simp [results, Tryz.results69, go_sem, f.1, f.2.1]) rfl ?_
  exact HF.out
set_option maxRecDepth 100000 in
set_option maxHeartbeats 6400000 in
theorem Tryz.mwork18_any (b n c hi : Nat) (d : Option Addr) (zs : List Int) (x y : Sk) (px py : Mp) (rest : List (Sk × Mp)) (w : World) (hL : LtSl w d n c zs) (hn : n ≤ 10000) (hS : StkAt w b w.heap.size ((((y, py) :: (x, px) :: rest).map (·.2)).reverse)) (hP : Parts w n b hi ((y, py) :: (x, px) :: rest)) (hh : hi ≤ w.heap.size) (hx : x.1 = true) (hy : y.1 = false) (hI : InW n x) (hr : rest.length ≤ 999999) :
    Calls Tryz.prog 69 #[.pointer (some ⟨b, 0, none⟩), .agg #[.int .u8 18, .int .u8 0], .slice d n c] w (WorkR n b w (skT (zN zs) (18, 0) [x, y]) rest) := by
  have hlen : (zN zs).length = n := by rw [zN_len]; exact hL.sl.hlen
  obtain ⟨lo2, hpy, hlo2, lo, hpx, hlo, hPr⟩ := hP
  have hblo := Parts.low hPr
  obtain ⟨p1, p2⟩ := px
  obtain ⟨q1, q2⟩ := py
  rw [List.map_cons, List.reverse_cons, List.map_cons, List.reverse_cons] at hS
  dsimp only at hS
  obtain ⟨ga, rs, hp1, hEa, hva, hga1, hga2⟩ := hpx.1 hx
  dsimp only at hp1
  subst hp1
  obtain ⟨gb, bv, hq1, hVb, hlb, hvb, _⟩ := hpy.2 hy
  dsimp only at hq1
  subst hq1
  have hw1 := below_new w (.cells #[.int .u8 18, .int .u8 0] 61)
  have hw2 := below_step hw1 (below_new (w.alloc (.cells #[.int .u8 18, .int .u8 0] 61)) (.cells #[.slice none 0 0, .slice none 0 0] 70))
  have hbox := (Below.heap_alloc (w.alloc (.cells #[.int .u8 18, .int .u8 0] 61)) (.cells #[.slice none 0 0, .slice none 0 0] 70) w.heap.size (by simp)).trans (MapKept.heap_alloc w _).1
  have hres := (MapKept.heap_alloc (w.alloc (.cells #[.int .u8 18, .int .u8 0] 61)) (.cells #[.slice none 0 0, .slice none 0 0] 70)).1
  have hsz : ((w.alloc (.cells #[.int .u8 18, .int .u8 0] 61)).alloc (.cells #[.slice none 0 0, .slice none 0 0] 70)).heap.size = w.heap.size + 2 := by simp
  rw [show (w.alloc (.cells #[.int .u8 18, .int .u8 0] 61)).heap.size = w.heap.size + 1 by simp] at hres
  clear hw1
  have HSEM : Hid (∀ i, i ≤ n → (everyP rs bv i (n + 1) ↔ (skT (zN zs) (18, 0) [x, y]).2.1 i)) := sem_box hI hva hvb
  have hcall := fun W (h1 : EndAt W ga (n + 1) rs) (h2 : ValAt W gb bv) => Tryz.meveryWay_any n ga gb rs bv W h1 h2 hlb hn
  have HTY : Hid ((skT (zN zs) (18, 0) [x, y]).1 = false) := rfl
  generalize skT (zN zs) (18, 0) [x, y] = X at *
  have hbB := hS.lt
  have HPR : Hid (Parts w n b lo rest) := hPr
  have HVA : Hid (EndAt w ga (n + 1) rs) := hEa
  have HVB : Hid (ValAt w gb bv) := hVb
  have HS : Hid _ := hS
  clear hS hPr hEa hVb hva hvb hlb hL hpx hpy hlen
  go_enter Tryz.func69, Tryz.ntmps69
  go_wp2_with fail
  generalize (w.alloc (.cells #[.int .u8 18, .int .u8 0] 61)).alloc (.cells #[.slice none 0 0, .slice none 0 0] 70) = w2 at *
  have hS2 := HS.out.up hw2
  have htk := Tryz.mtake_any b w.heap.size _ _ w2 hS2 (by simp; omega)
  unfold slV at htk
  dsimp only at htk
  have Hsz : Hid _ := hsz
  have HB2 : Hid _ := hw2
  have HBX : Hid _ := hbox
  have HRS : Hid _ := hres
  have HS2 : Hid _ := hS2
  clear hbox hS2 hsz hw2 hres
  refine htk.mono ?_
  rintro e w3 ⟨rfl, hs3, hg3⟩
  have htk2 := Tryz.mtake_any b w.heap.size _ _ (w3.alloc (.cells #[.slice (some ⟨gb, 0, none⟩) (n + 1) (n + 1), .slice q2.1 q2.2.1 q2.2.2] 70)) (hs3.up (below_new _ _)) (by simp; omega)
  unfold slV at htk2
  dsimp only at htk2
  have HG3 : Hid _ := hg3
  have HS3 : Hid _ := hs3
  clear htk hs3 hg3
  go_wp2_with fail
  refine htk2.mono ?_
  rintro e w4 ⟨rfl, hs4, hg4⟩
  have hz2 := Hsz.out
  have hz3 := HG3.out.size
  have hz4 := hg4.size
  have hz4' : w3.heap.size + 1 ≤ w4.heap.size := by simpa using hz4
  have hbx3 := (HG3.out.block w.heap.size (by omega) (fun e => by injection e with e; omega)).trans HBX.out
  have hbx4 := (hg4.block w.heap.size (by simp; omega) (fun e => by injection e with e; omega)).trans ((Below.heap_alloc w3 (.cells #[.slice (some ⟨gb, 0, none⟩) (n + 1) (n + 1), .slice q2.1 q2.2.1 q2.2.2] 70) _ (by omega)).trans hbx3)
  have hrs3 := (HG3.out.block (w.heap.size + 1) (by omega) (fun e => by injection e with e; omega)).trans HRS.out
  have hrs4 := (hg4.block (w.heap.size + 1) (by simp; omega) (fun e => by injection e with e; omega)).trans ((Below.heap_alloc w3 (.cells #[.slice (some ⟨gb, 0, none⟩) (n + 1) (n + 1), .slice q2.1 q2.2.1 q2.2.2] 70) _ (by omega)).trans hrs3)
  have hvb4 := (hg4.block w3.heap.size (by simp) (fun e => by injection e with e; omega)).trans (MapKept.heap_alloc w3 (.cells #[.slice (some ⟨gb, 0, none⟩) (n + 1) (n + 1), .slice q2.1 q2.2.1 q2.2.2] 70)).1
  have hK : KeepT w.heap.size w w4 := by
    obtain ⟨v0, hv0, _⟩ := HS2.out.c
    obtain ⟨v1, hv1, _⟩ := (HS3.out.up (below_new w3 (.cells #[.slice (some ⟨gb, 0, none⟩) (n + 1) (n + 1), .slice q2.1 q2.2.1 q2.2.2] 70))).c
    exact (((KeepT.of_below HB2.out).trans (KeepT.of_grown HG3.out hv0 (by decide) (by decide) (by decide))).trans (KeepT.of_below (below_new _ (.cells #[.slice (some ⟨gb, 0, none⟩) (n + 1) (n + 1), .slice q2.1 q2.2.1 q2.2.2] 70)))).trans (KeepT.of_grown hg4 hv1 (by decide) (by decide) (by decide))
  have hbl : Below b w w4 := by
    have h1 : Below b w2 w3 := ⟨HG3.out.os, HG3.out.tape, HG3.out.output, HG3.out.size, fun k hk => HG3.out.block k (by omega) (fun e => by injection e with e; omega)⟩
    have h2 : Below b (w3.alloc (.cells #[.slice (some ⟨gb, 0, none⟩) (n + 1) (n + 1), .slice q2.1 q2.2.1 q2.2.2] 70)) w4 := ⟨hg4.os, hg4.tape, hg4.output, hg4.size, fun k hk => hg4.block k (by simp; omega) (fun e => by injection e with e; omega)⟩
    exact (((HB2.out.mono (by omega)).trans h1).trans ((below_new _ _).mono (by omega))).trans h2
  have KA : Hid (EndAt w4 ga (n + 1) rs) := HVA.out.keep (fun k c t z hc ht h1 h2 => hK k c t z hc (Or.inr ⟨ht, by omega⟩))
  have KBv : Hid (ValAt w4 gb bv) := (hK _ _ _ _ HVB.out (Or.inl rfl)).trans HVB.out
  have KP : Hid (Parts w4 n b lo rest) := HPR.out.keep (hK.mono (by omega))
  have KB : Hid (Below b w w4) := hbl
  have KS : Hid _ := hs4
  have KR : Hid _ := hrs4
  have cx := cell_row ((Below.heap_alloc w4 (.cells #[.slice p1.1 p1.2.1 p1.2.2, .slice (some ⟨ga, 0, none⟩) (n + 1) (n + 1)] 70) _ (by omega)).trans hbx4) 0
  have cb0 := cell_row ((Below.heap_alloc w4 (.cells #[.slice p1.1 p1.2.1 p1.2.2, .slice (some ⟨ga, 0, none⟩) (n + 1) (n + 1)] 70) _ (by omega)).trans hvb4) 0
  have cb1 := cell_row ((Below.heap_alloc w4 (.cells #[.slice p1.1 p1.2.1 p1.2.2, .slice (some ⟨ga, 0, none⟩) (n + 1) (n + 1)] 70) _ (by omega)).trans hvb4) 1
  simp at cx cb0 cb1
  have hcl := hcall (w4.alloc (.cells #[.slice p1.1 p1.2.1 p1.2.2, .slice (some ⟨ga, 0, none⟩) (n + 1) (n + 1)] 70)) (KA.out.up (below_new _ _)) (KBv.out.up (below_new _ _))
  have HZ : Hid (w.heap.size + 2 ≤ w4.heap.size) := by show _ ≤ _; omega
  clear hbx3 hbx4 hrs3 hrs4 hvb4 hK hbl hs4 hg4 hz2 hz3 hz4 hz4' htk2 hcall HG3 HS3 HS2 HRS HBX HB2 Hsz HPR HVA HVB HS KA KBv
  go_wp2_with fail
  refine hcl.mono ?_
  rintro e w6 ⟨g, bs, rfl, hV, hl, hv, hb6, hge⟩
  have hr6 := (hb6.block (w.heap.size + 1) (by have := HZ.out; simp; omega)).trans ((Below.heap_alloc w4 (.cells #[.slice p1.1 p1.2.1 p1.2.2, .slice (some ⟨ga, 0, none⟩) (n + 1) (n + 1)] 70) _ (by have := HZ.out; omega)).trans KR.out)
  have K6 := below_step (below_new w4 (.cells #[.slice p1.1 p1.2.1 p1.2.2, .slice (some ⟨ga, 0, none⟩) (n + 1) (n + 1)] 70)) hb6
  have c0 := cell_row hr6 0
  have c1 := cell_row hr6 1
  have z0 := frozen_of_row _ _ 0 _ _ hr6
  have z1 := frozen_of_row _ _ 1 _ _ hr6
  simp at c0 c1
  have HR6 : Hid _ := hr6
  have HF : Hid (WorkR n b w X rest (.returned (.agg #[.slice (some ⟨g, 0, none⟩) (n + 1) (n + 1), .slice none 0 0])) ((w6.setCell ⟨w.heap.size + 1, 0, none⟩ (.slice (some ⟨g, 0, none⟩) (n + 1) (n + 1))).setCell ⟨w.heap.size + 1, 1, none⟩ (.slice none 0 0))) :=
    fin_val (KS.out.up K6) (KP.out.keep (KeepT.of_below K6)) hr6 (KB.out.trans (K6.mono (by have := HZ.out; omega))) hV hl HTY.out (fun i hi => (hv i hi).trans (HSEM.out i hi)) (by have := HZ.out; have := K6.size; omega) (by have := HZ.out; simp at hge; omega)
  clear hge hV hl hv hb6 hr6 K6 hcl KS KP KR KB cx cb0 cb1
  go_wp2
  have f := set2_cells HR6.out (.slice (some ⟨g, 0, none⟩) (n + 1) (n + 1)) (.slice none 0 0)
  refine bodyPost_ret (v := .agg #[.slice (some ⟨g, 0, none⟩) (n + 1) (n + 1), .slice none 0 0]) (by simp [results, Tryz.results69, go_sem, f.1, f.2.1]) rfl ?_
  exact HF.out
set_option maxRecDepth 100000 in
set_option maxHeartbeats 6400000 in
theorem Tryz.mwork21_any (b n c hi : Nat) (d : Option Addr) (zs : List Int) (x y : Sk) (px py : Mp) (rest : List (Sk × Mp)) (w : World) (hL : LtSl w d n c zs) (hn : n ≤ 10000) (hS : StkAt w b w.heap.size ((((y, py) :: (x, px) :: rest).map (·.2)).reverse)) (hP : Parts w n b hi ((y, py) :: (x, px) :: rest)) (hh : hi ≤ w.heap.size) (hx : x.1 = true) (hy : y.1 = true) (hJ : InW n y) (hr : rest.length ≤ 999999) :
    Calls Tryz.prog 69 #[.pointer (some ⟨b, 0, none⟩), .agg #[.int .u8 21, .int .u8 0], .slice d n c] w (WorkR n b w (skT (zN zs) (21, 0) [x, y]) rest) := by
  have hlen : (zN zs).length = n := by rw [zN_len]; exact hL.sl.hlen
  obtain ⟨lo2, hpy, hlo2, lo, hpx, hlo, hPr⟩ := hP
  have hblo := Parts.low hPr
  obtain ⟨p1, p2⟩ := px
  obtain ⟨q1, q2⟩ := py
  rw [List.map_cons, List.reverse_cons, List.map_cons, List.reverse_cons] at hS
  dsimp only at hS
  obtain ⟨ga, rs, hp1, hEa, hva, hga1, hga2⟩ := hpx.1 hx
  dsimp only at hp1
  subst hp1
  obtain ⟨gb, us, hq1, hEb, hvb, hgb1, hgb2⟩ := hpy.1 hy
  dsimp only at hq1
  subst hq1
  have hw1 := below_new w (.cells #[.int .u8 21, .int .u8 0] 61)
  have hw2 := below_step hw1 (below_new (w.alloc (.cells #[.int .u8 21, .int .u8 0] 61)) (.cells #[.slice none 0 0, .slice none 0 0] 70))
  have hbox := (Below.heap_alloc (w.alloc (.cells #[.int .u8 21, .int .u8 0] 61)) (.cells #[.slice none 0 0, .slice none 0 0] 70) w.heap.size (by simp)).trans (MapKept.heap_alloc w _).1
  have hres := (MapKept.heap_alloc (w.alloc (.cells #[.int .u8 21, .int .u8 0] 61)) (.cells #[.slice none 0 0, .slice none 0 0] 70)).1
  have hsz : ((w.alloc (.cells #[.int .u8 21, .int .u8 0] 61)).alloc (.cells #[.slice none 0 0, .slice none 0 0] 70)).heap.size = w.heap.size + 2 := by simp
  rw [show (w.alloc (.cells #[.int .u8 21, .int .u8 0] 61)).heap.size = w.heap.size + 1 by simp] at hres
  clear hw1
  have HSEM : Hid (∀ i, i ≤ n → ∀ k, hasW (plusTo rs us (n + 1) i) k = true ↔ (skT (zN zs) (21, 0) [x, y]).2.2 i k) := sem_plus hJ hva hvb hEa.ok hEb.ok
  have hcall := fun W (h1 : EndAt W ga (n + 1) rs) (h2 : EndAt W gb (n + 1) us) => Tryz.mplus_any ga gb (n + 1) rs us W (by omega) h1 h2 (by omega)
  have HTY : Hid ((skT (zN zs) (21, 0) [x, y]).1 = true) := rfl
  generalize skT (zN zs) (21, 0) [x, y] = X at *
  have hbB := hS.lt
  have HPR : Hid (Parts w n b lo rest) := hPr
  have HVA : Hid (EndAt w ga (n + 1) rs) := hEa
  have HVB : Hid (EndAt w gb (n + 1) us) := hEb
  have HS : Hid _ := hS
  clear hS hPr hEa hEb hva hvb hL hpx hpy hlen
  go_enter Tryz.func69, Tryz.ntmps69
  go_wp2_with fail
  generalize (w.alloc (.cells #[.int .u8 21, .int .u8 0] 61)).alloc (.cells #[.slice none 0 0, .slice none 0 0] 70) = w2 at *
  have hS2 := HS.out.up hw2
  have htk := Tryz.mtake_any b w.heap.size _ _ w2 hS2 (by simp; omega)
  unfold slV at htk
  dsimp only at htk
  have Hsz : Hid _ := hsz
  have HB2 : Hid _ := hw2
  have HBX : Hid _ := hbox
  have HRS : Hid _ := hres
  have HS2 : Hid _ := hS2
  clear hbox hS2 hsz hw2 hres
  refine htk.mono ?_
  rintro e w3 ⟨rfl, hs3, hg3⟩
  have htk2 := Tryz.mtake_any b w.heap.size _ _ (w3.alloc (.cells #[.slice q1.1 q1.2.1 q1.2.2, .slice (some ⟨gb, 0, none⟩) (n + 1) (n + 1)] 70)) (hs3.up (below_new _ _)) (by simp; omega)
  unfold slV at htk2
  dsimp only at htk2
  have HG3 : Hid _ := hg3
  have HS3 : Hid _ := hs3
  clear htk hs3 hg3
  go_wp2_with fail
  refine htk2.mono ?_
  rintro e w4 ⟨rfl, hs4, hg4⟩
  have hz2 := Hsz.out
  have hz3 := HG3.out.size
  have hz4 := hg4.size
  have hz4' : w3.heap.size + 1 ≤ w4.heap.size := by simpa using hz4
  have hbx3 := (HG3.out.block w.heap.size (by omega) (fun e => by injection e with e; omega)).trans HBX.out
  have hbx4 := (hg4.block w.heap.size (by simp; omega) (fun e => by injection e with e; omega)).trans ((Below.heap_alloc w3 (.cells #[.slice q1.1 q1.2.1 q1.2.2, .slice (some ⟨gb, 0, none⟩) (n + 1) (n + 1)] 70) _ (by omega)).trans hbx3)
  have hrs3 := (HG3.out.block (w.heap.size + 1) (by omega) (fun e => by injection e with e; omega)).trans HRS.out
  have hrs4 := (hg4.block (w.heap.size + 1) (by simp; omega) (fun e => by injection e with e; omega)).trans ((Below.heap_alloc w3 (.cells #[.slice q1.1 q1.2.1 q1.2.2, .slice (some ⟨gb, 0, none⟩) (n + 1) (n + 1)] 70) _ (by omega)).trans hrs3)
  have hvb4 := (hg4.block w3.heap.size (by simp) (fun e => by injection e with e; omega)).trans (MapKept.heap_alloc w3 (.cells #[.slice q1.1 q1.2.1 q1.2.2, .slice (some ⟨gb, 0, none⟩) (n + 1) (n + 1)] 70)).1
  have hK : KeepT w.heap.size w w4 := by
    obtain ⟨v0, hv0, _⟩ := HS2.out.c
    obtain ⟨v1, hv1, _⟩ := (HS3.out.up (below_new w3 (.cells #[.slice q1.1 q1.2.1 q1.2.2, .slice (some ⟨gb, 0, none⟩) (n + 1) (n + 1)] 70))).c
    exact (((KeepT.of_below HB2.out).trans (KeepT.of_grown HG3.out hv0 (by decide) (by decide) (by decide))).trans (KeepT.of_below (below_new _ (.cells #[.slice q1.1 q1.2.1 q1.2.2, .slice (some ⟨gb, 0, none⟩) (n + 1) (n + 1)] 70)))).trans (KeepT.of_grown hg4 hv1 (by decide) (by decide) (by decide))
  have hbl : Below b w w4 := by
    have h1 : Below b w2 w3 := ⟨HG3.out.os, HG3.out.tape, HG3.out.output, HG3.out.size, fun k hk => HG3.out.block k (by omega) (fun e => by injection e with e; omega)⟩
    have h2 : Below b (w3.alloc (.cells #[.slice q1.1 q1.2.1 q1.2.2, .slice (some ⟨gb, 0, none⟩) (n + 1) (n + 1)] 70)) w4 := ⟨hg4.os, hg4.tape, hg4.output, hg4.size, fun k hk => hg4.block k (by simp; omega) (fun e => by injection e with e; omega)⟩
    exact (((HB2.out.mono (by omega)).trans h1).trans ((below_new _ _).mono (by omega))).trans h2
  have KA : Hid (EndAt w4 ga (n + 1) rs) := HVA.out.keep (fun k c t z hc ht h1 h2 => hK k c t z hc (Or.inr ⟨ht, by omega⟩))
  have KBv : Hid (EndAt w4 gb (n + 1) us) := HVB.out.keep (fun k c t z hc ht h1 h2 => hK k c t z hc (Or.inr ⟨ht, by omega⟩))
  have KP : Hid (Parts w4 n b lo rest) := HPR.out.keep (hK.mono (by omega))
  have KB : Hid (Below b w w4) := hbl
  have KS : Hid _ := hs4
  have KR : Hid _ := hrs4
  have cx := cell_row ((Below.heap_alloc w4 (.cells #[.slice p1.1 p1.2.1 p1.2.2, .slice (some ⟨ga, 0, none⟩) (n + 1) (n + 1)] 70) _ (by omega)).trans hbx4) 0
  have cb0 := cell_row ((Below.heap_alloc w4 (.cells #[.slice p1.1 p1.2.1 p1.2.2, .slice (some ⟨ga, 0, none⟩) (n + 1) (n + 1)] 70) _ (by omega)).trans hvb4) 0
  have cb1 := cell_row ((Below.heap_alloc w4 (.cells #[.slice p1.1 p1.2.1 p1.2.2, .slice (some ⟨ga, 0, none⟩) (n + 1) (n + 1)] 70) _ (by omega)).trans hvb4) 1
  simp at cx cb0 cb1
  have hcl := hcall (w4.alloc (.cells #[.slice p1.1 p1.2.1 p1.2.2, .slice (some ⟨ga, 0, none⟩) (n + 1) (n + 1)] 70)) (KA.out.up (below_new _ _)) (KBv.out.up (below_new _ _))
  have HZ : Hid (w.heap.size + 2 ≤ w4.heap.size) := by show _ ≤ _; omega
  clear hbx3 hbx4 hrs3 hrs4 hvb4 hK hbl hs4 hg4 hz2 hz3 hz4 hz4' htk2 hcall HG3 HS3 HS2 HRS HBX HB2 Hsz HPR HVA HVB HS KA KBv
  go_wp2_with fail
  refine hcl.mono ?_
  rintro e w6 ⟨rfl, hE, ho6⟩
  have hr6 := (ho6.block (w.heap.size + 1) (by have := HZ.out; simp; omega) (Or.inr fun c z e => by
    rw [(Below.heap_alloc w4 (.cells #[.slice p1.1 p1.2.1 p1.2.2, .slice (some ⟨ga, 0, none⟩) (n + 1) (n + 1)] 70) _ (by have := HZ.out; omega)).trans KR.out] at e
    injection e with e
    injection e with _ e _
    exact absurd e (by decide))).trans ((Below.heap_alloc w4 (.cells #[.slice p1.1 p1.2.1 p1.2.2, .slice (some ⟨ga, 0, none⟩) (n + 1) (n + 1)] 70) _ (by have := HZ.out; omega)).trans KR.out)
  have c0 := cell_row hr6 0
  have c1 := cell_row hr6 1
  have z0 := frozen_of_row _ _ 0 _ _ hr6
  have z1 := frozen_of_row _ _ 1 _ _ hr6
  simp at c0 c1
  have HR6 : Hid _ := hr6
  have HF : Hid (WorkR n b w X rest (.returned (.agg #[.slice none 0 0, .slice (some ⟨ga, 0, none⟩) (n + 1) (n + 1)])) ((w6.setCell ⟨w.heap.size + 1, 0, none⟩ (.slice none 0 0)).setCell ⟨w.heap.size + 1, 1, none⟩ (.slice (some ⟨ga, 0, none⟩) (n + 1) (n + 1)))) :=
    fin_end ((KS.out.up (below_new _ (.cells #[.slice p1.1 p1.2.1 p1.2.2, .slice (some ⟨ga, 0, none⟩) (n + 1) (n + 1)] 70))).only ho6) ((KP.out.keep (KeepT.of_below (below_new _ (.cells #[.slice p1.1 p1.2.1 p1.2.2, .slice (some ⟨ga, 0, none⟩) (n + 1) (n + 1)] 70)))).keep ((KeepT.of_only ho6).mono (by omega))) hr6 ((KB.out.trans ((below_new _ (.cells #[.slice p1.1 p1.2.1 p1.2.2, .slice (some ⟨ga, 0, none⟩) (n + 1) (n + 1)] 70)).mono (by have := HZ.out; omega))).trans (ho6.below (by omega) (by have := HZ.out; simp; omega))) hE HTY.out HSEM.out (by omega)
  clear hE ho6 hr6 hcl KS KP KR KB cx cb0 cb1
  go_wp2
  have f := set2_cells HR6.out (.slice none 0 0) (.slice (some ⟨ga, 0, none⟩) (n + 1) (n + 1))
  refine bodyPost_ret (v := .agg #[.slice none 0 0, .slice (some ⟨ga, 0, none⟩) (n + 1) (n + 1)]) (by simp [results, Tryz.results69, go_sem, f.1, f.2.1]) rfl ?_
  exact HF.out
set_option maxRecDepth 100000 in
set_option maxHeartbeats 6400000 in
theorem Tryz.mwork22_any (b n c hi : Nat) (d : Option Addr) (zs : List Int) (x y : Sk) (px py : Mp) (rest : List (Sk × Mp)) (w : World) (hL : LtSl w d n c zs) (hn : n ≤ 10000) (hS : StkAt w b w.heap.size ((((y, py) :: (x, px) :: rest).map (·.2)).reverse)) (hP : Parts w n b hi ((y, py) :: (x, px) :: rest)) (hh : hi ≤ w.heap.size) (hx : x.1 = true) (hy : y.1 = true) (hI : InW n x) (hJ : InW n y) (hr : rest.length ≤ 999999) :
    Calls Tryz.prog 69 #[.pointer (some ⟨b, 0, none⟩), .agg #[.int .u8 22, .int .u8 0], .slice d n c] w (WorkR n b w (skT (zN zs) (22, 0) [x, y]) rest) := by
  have hlen : (zN zs).length = n := by rw [zN_len]; exact hL.sl.hlen
  obtain ⟨lo2, hpy, hlo2, lo, hpx, hlo, hPr⟩ := hP
  have hblo := Parts.low hPr
  obtain ⟨p1, p2⟩ := px
  obtain ⟨q1, q2⟩ := py
  rw [List.map_cons, List.reverse_cons, List.map_cons, List.reverse_cons] at hS
  dsimp only at hS
  obtain ⟨ga, rs, hp1, hEa, hva, hga1, hga2⟩ := hpx.1 hx
  dsimp only at hp1
  subst hp1
  obtain ⟨gb, us, hq1, hEb, hvb, hgb1, hgb2⟩ := hpy.1 hy
  dsimp only at hq1
  subst hq1
  have hw1 := below_new w (.cells #[.int .u8 22, .int .u8 0] 61)
  have hw2 := below_step hw1 (below_new (w.alloc (.cells #[.int .u8 22, .int .u8 0] 61)) (.cells #[.slice none 0 0, .slice none 0 0] 70))
  have hbox := (Below.heap_alloc (w.alloc (.cells #[.int .u8 22, .int .u8 0] 61)) (.cells #[.slice none 0 0, .slice none 0 0] 70) w.heap.size (by simp)).trans (MapKept.heap_alloc w _).1
  have hres := (MapKept.heap_alloc (w.alloc (.cells #[.int .u8 22, .int .u8 0] 61)) (.cells #[.slice none 0 0, .slice none 0 0] 70)).1
  have hsz : ((w.alloc (.cells #[.int .u8 22, .int .u8 0] 61)).alloc (.cells #[.slice none 0 0, .slice none 0 0] 70)).heap.size = w.heap.size + 2 := by simp
  rw [show (w.alloc (.cells #[.int .u8 22, .int .u8 0] 61)).heap.size = w.heap.size + 1 by simp] at hres
  clear hw1
  have HSEM : Hid (∀ xs : Nat → List Nat, (∀ i, i < n + 1 → SeqTo rs us i (n + 1) (xs i)) → ∀ i, i ≤ n → ∀ k, hasW (xs i) k = true ↔ (skT (zN zs) (22, 0) [x, y]).2.2 i k) := fun xs hd => sem_seq hI hva hvb hd
  have hcall := fun W (h1 : EndAt W ga (n + 1) rs) (h2 : EndAt W gb (n + 1) us) => Tryz.mseq_any ga gb (n + 1) rs us W (by omega) h1 h2 (fun j hj k hk => (hJ j k (by omega) ((hvb j (by omega) k).1 hk)).1)
  have HTY : Hid ((skT (zN zs) (22, 0) [x, y]).1 = true) := rfl
  generalize skT (zN zs) (22, 0) [x, y] = X at *
  have hbB := hS.lt
  have HPR : Hid (Parts w n b lo rest) := hPr
  have HVA : Hid (EndAt w ga (n + 1) rs) := hEa
  have HVB : Hid (EndAt w gb (n + 1) us) := hEb
  have HS : Hid _ := hS
  clear hS hPr hEa hEb hva hvb hL hpx hpy hlen
  go_enter Tryz.func69, Tryz.ntmps69
  go_wp2_with fail
  generalize (w.alloc (.cells #[.int .u8 22, .int .u8 0] 61)).alloc (.cells #[.slice none 0 0, .slice none 0 0] 70) = w2 at *
  have hS2 := HS.out.up hw2
  have htk := Tryz.mtake_any b w.heap.size _ _ w2 hS2 (by simp; omega)
  unfold slV at htk
  dsimp only at htk
  have Hsz : Hid _ := hsz
  have HB2 : Hid _ := hw2
  have HBX : Hid _ := hbox
  have HRS : Hid _ := hres
  have HS2 : Hid _ := hS2
  clear hbox hS2 hsz hw2 hres
  refine htk.mono ?_
  rintro e w3 ⟨rfl, hs3, hg3⟩
  have htk2 := Tryz.mtake_any b w.heap.size _ _ (w3.alloc (.cells #[.slice q1.1 q1.2.1 q1.2.2, .slice (some ⟨gb, 0, none⟩) (n + 1) (n + 1)] 70)) (hs3.up (below_new _ _)) (by simp; omega)
  unfold slV at htk2
  dsimp only at htk2
  have HG3 : Hid _ := hg3
  have HS3 : Hid _ := hs3
  clear htk hs3 hg3
  go_wp2_with fail
  refine htk2.mono ?_
  rintro e w4 ⟨rfl, hs4, hg4⟩
  have hz2 := Hsz.out
  have hz3 := HG3.out.size
  have hz4 := hg4.size
  have hz4' : w3.heap.size + 1 ≤ w4.heap.size := by simpa using hz4
  have hbx3 := (HG3.out.block w.heap.size (by omega) (fun e => by injection e with e; omega)).trans HBX.out
  have hbx4 := (hg4.block w.heap.size (by simp; omega) (fun e => by injection e with e; omega)).trans ((Below.heap_alloc w3 (.cells #[.slice q1.1 q1.2.1 q1.2.2, .slice (some ⟨gb, 0, none⟩) (n + 1) (n + 1)] 70) _ (by omega)).trans hbx3)
  have hrs3 := (HG3.out.block (w.heap.size + 1) (by omega) (fun e => by injection e with e; omega)).trans HRS.out
  have hrs4 := (hg4.block (w.heap.size + 1) (by simp; omega) (fun e => by injection e with e; omega)).trans ((Below.heap_alloc w3 (.cells #[.slice q1.1 q1.2.1 q1.2.2, .slice (some ⟨gb, 0, none⟩) (n + 1) (n + 1)] 70) _ (by omega)).trans hrs3)
  have hvb4 := (hg4.block w3.heap.size (by simp) (fun e => by injection e with e; omega)).trans (MapKept.heap_alloc w3 (.cells #[.slice q1.1 q1.2.1 q1.2.2, .slice (some ⟨gb, 0, none⟩) (n + 1) (n + 1)] 70)).1
  have hK : KeepT w.heap.size w w4 := by
    obtain ⟨v0, hv0, _⟩ := HS2.out.c
    obtain ⟨v1, hv1, _⟩ := (HS3.out.up (below_new w3 (.cells #[.slice q1.1 q1.2.1 q1.2.2, .slice (some ⟨gb, 0, none⟩) (n + 1) (n + 1)] 70))).c
    exact (((KeepT.of_below HB2.out).trans (KeepT.of_grown HG3.out hv0 (by decide) (by decide) (by decide))).trans (KeepT.of_below (below_new _ (.cells #[.slice q1.1 q1.2.1 q1.2.2, .slice (some ⟨gb, 0, none⟩) (n + 1) (n + 1)] 70)))).trans (KeepT.of_grown hg4 hv1 (by decide) (by decide) (by decide))
  have hbl : Below b w w4 := by
    have h1 : Below b w2 w3 := ⟨HG3.out.os, HG3.out.tape, HG3.out.output, HG3.out.size, fun k hk => HG3.out.block k (by omega) (fun e => by injection e with e; omega)⟩
    have h2 : Below b (w3.alloc (.cells #[.slice q1.1 q1.2.1 q1.2.2, .slice (some ⟨gb, 0, none⟩) (n + 1) (n + 1)] 70)) w4 := ⟨hg4.os, hg4.tape, hg4.output, hg4.size, fun k hk => hg4.block k (by simp; omega) (fun e => by injection e with e; omega)⟩
    exact (((HB2.out.mono (by omega)).trans h1).trans ((below_new _ _).mono (by omega))).trans h2
  have KA : Hid (EndAt w4 ga (n + 1) rs) := HVA.out.keep (fun k c t z hc ht h1 h2 => hK k c t z hc (Or.inr ⟨ht, by omega⟩))
  have KBv : Hid (EndAt w4 gb (n + 1) us) := HVB.out.keep (fun k c t z hc ht h1 h2 => hK k c t z hc (Or.inr ⟨ht, by omega⟩))
  have KP : Hid (Parts w4 n b lo rest) := HPR.out.keep (hK.mono (by omega))
  have KB : Hid (Below b w w4) := hbl
  have KS : Hid _ := hs4
  have KR : Hid _ := hrs4
  have cx := cell_row ((Below.heap_alloc w4 (.cells #[.slice p1.1 p1.2.1 p1.2.2, .slice (some ⟨ga, 0, none⟩) (n + 1) (n + 1)] 70) _ (by omega)).trans hbx4) 0
  have cb0 := cell_row ((Below.heap_alloc w4 (.cells #[.slice p1.1 p1.2.1 p1.2.2, .slice (some ⟨ga, 0, none⟩) (n + 1) (n + 1)] 70) _ (by omega)).trans hvb4) 0
  have cb1 := cell_row ((Below.heap_alloc w4 (.cells #[.slice p1.1 p1.2.1 p1.2.2, .slice (some ⟨ga, 0, none⟩) (n + 1) (n + 1)] 70) _ (by omega)).trans hvb4) 1
  simp at cx cb0 cb1
  have hcl := hcall (w4.alloc (.cells #[.slice p1.1 p1.2.1 p1.2.2, .slice (some ⟨ga, 0, none⟩) (n + 1) (n + 1)] 70)) (KA.out.up (below_new _ _)) (KBv.out.up (below_new _ _))
  have HZ : Hid (w.heap.size + 2 ≤ w4.heap.size) := by show _ ≤ _; omega
  clear hbx3 hbx4 hrs3 hrs4 hvb4 hK hbl hs4 hg4 hz2 hz3 hz4 hz4' htk2 hcall HG3 HS3 HS2 HRS HBX HB2 Hsz HPR HVA HVB HS KA KBv
  go_wp2_with fail
  refine hcl.mono ?_
  rintro e w6 ⟨rfl, ⟨xs, hE, hd⟩, hb6⟩
  have hr6 := (hb6.block (w.heap.size + 1) (by have := HZ.out; simp; omega)).trans ((Below.heap_alloc w4 (.cells #[.slice p1.1 p1.2.1 p1.2.2, .slice (some ⟨ga, 0, none⟩) (n + 1) (n + 1)] 70) _ (by have := HZ.out; omega)).trans KR.out)
  have K6 := below_step (below_new w4 (.cells #[.slice p1.1 p1.2.1 p1.2.2, .slice (some ⟨ga, 0, none⟩) (n + 1) (n + 1)] 70)) hb6
  have c0 := cell_row hr6 0
  have c1 := cell_row hr6 1
  have z0 := frozen_of_row _ _ 0 _ _ hr6
  have z1 := frozen_of_row _ _ 1 _ _ hr6
  simp at c0 c1
  have HR6 : Hid _ := hr6
  have eg : (w4.alloc (.cells #[.slice p1.1 p1.2.1 p1.2.2, .slice (some ⟨ga, 0, none⟩) (n + 1) (n + 1)] 70)).heap.size = w4.heap.size + 1 := by simp
  rw [eg] at hE
  have HF : Hid (WorkR n b w X rest (.returned (.agg #[.slice none 0 0, .slice (some ⟨(w4.heap.size + 1), 0, none⟩) (n + 1) (n + 1)])) ((w6.setCell ⟨w.heap.size + 1, 0, none⟩ (.slice none 0 0)).setCell ⟨w.heap.size + 1, 1, none⟩ (.slice (some ⟨(w4.heap.size + 1), 0, none⟩) (n + 1) (n + 1)))) :=
    fin_end (KS.out.up K6) (KP.out.keep (KeepT.of_below K6)) hr6 (KB.out.trans (K6.mono (by have := HZ.out; omega))) hE HTY.out (HSEM.out _ hd) (by have := HZ.out; omega)
  clear hE hd hb6 K6 hr6 hcl KS KP KR KB cx cb0 cb1
  go_wp2
  have f := set2_cells HR6.out (.slice none 0 0) (.slice (some ⟨(w4.heap.size + 1), 0, none⟩) (n + 1) (n + 1))
  refine bodyPost_ret (v := .agg #[.slice none 0 0, .slice (some ⟨(w4.heap.size + 1), 0, none⟩) (n + 1) (n + 1)]) (by simp [results, Tryz.results69, go_sem, f.1, f.2.1]) rfl ?_
  exact HF.out
end Go.Proofs.YtejekdenpefoiaaGreatDoor
