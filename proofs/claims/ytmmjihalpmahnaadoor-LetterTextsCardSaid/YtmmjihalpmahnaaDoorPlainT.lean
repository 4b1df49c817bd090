/- Texts cut at one byte and put together again; the texts of letters and traces, plain. Nothing of the program is named here. -/
import Derived.Test.YtmmjihalpmahnaaDoorPlain
import Derived.Lib.SplitLaws
import Derived.Lib.Join
import Derived.Lib.IndexBytes
namespace Go.Proofs.YtmmjihalpmahnaaDoor
open Go.RowKit

/-- A text cut at each byte c. -/
def cut (c : UInt8) : Bytes → List Bytes
  | [] => [[]]
  | b :: r => if b = c then [] :: cut c r else match cut c r with
    | h :: t => (b :: h) :: t
    | [] => [[b]]
theorem cut_ne (c : UInt8) : ∀ s, cut c s ≠ []
  | [] => by simp [cut]
  | b :: r => by
    unfold cut; split
    · simp
    · split <;> simp
theorem cut_miss {c : UInt8} : ∀ {s : Bytes}, c ∉ s → cut c s = [s]
  | [], _ => rfl
  | b :: r, h => by
    have hb : b ≠ c := fun e => h (by simp [e])
    have hr : c ∉ r := fun e => h (by simp [e])
    rw [cut, if_neg hb, cut_miss hr]
theorem cut_hit {c : UInt8} : ∀ {p : Bytes} (r : Bytes), c ∉ p → cut c (p ++ c :: r) = p :: cut c r
  | [], r, _ => by simp [cut]
  | b :: p, r, h => by
    have hb : b ≠ c := fun e => h (by simp [e])
    have hp : c ∉ p := fun e => h (by simp [e])
    rw [List.cons_append, cut, if_neg hb, cut_hit r hp]
theorem split_cut (c : UInt8) : ∀ (n : Nat) (s : Bytes), s.length ≤ n → Lib.split s [c] = cut c s
  | n, s, hn => by
    have h1 := Lib.index_one s c
    by_cases hm : c ∈ s
    · obtain ⟨p, r, rfl, hp⟩ : ∃ p r, s = p ++ c :: r ∧ c ∉ p := by
        obtain ⟨p, r, hs, hp⟩ := List.append_of_mem hm |>.elim fun p h => h.elim fun r hs => by
          exact List.eq_append_cons_of_mem hm
        exact ⟨p, r, hs, hp⟩
      have hi : Lib.indexByte (p ++ c :: r) c = (p.length : Int) := by
        clear h1 hm hn
        induction p with
        | nil => simp [Lib.indexByte]
        | cons b p ih =>
          have hb : b ≠ c := fun e => hp (by simp [e])
          have := ih (fun e => hp (by simp [e]))
          rw [List.cons_append, Lib.indexByte, if_neg (by simpa using hb), this, if_neg (by simp)]
          simp
      rw [hi] at h1
      cases n with
      | zero => simp at hn
      | succ n =>
        have ih := split_cut c n r (by simp at hn; omega)
        rw [cut_hit r hp, ← ih]
        unfold Lib.split
        rw [Lib.count_hit (by simp) h1, Nat.add_comm 1]
        rw [Lib.splitK, if_neg (by rw [h1]; simp), h1]
        simp
    · have hi : Lib.indexByte s c = -1 := by
        clear h1 hn
        induction s with
        | nil => rfl
        | cons b s ih =>
          have hb : b ≠ c := fun e => hm (by simp [e])
          have := ih (fun e => hm (by simp [e]))
          rw [Lib.indexByte, if_neg (by simpa using hb), this]; simp
      rw [hi] at h1
      unfold Lib.split
      rw [Lib.count_miss h1, cut_miss hm]; rfl
theorem cut_join (c : UInt8) : ∀ (xs : List Bytes), xs ≠ [] → (∀ x ∈ xs, c ∉ x) → cut c (Lib.join xs [c]) = xs
  | [x], _, h => by rw [Lib.join_one]; exact cut_miss (h x (by simp))
  | x :: y :: r, _, h => by
    have ih := cut_join c (y :: r) (by simp) (fun z hz => h z (by simp [hz]))
    have e : Lib.join (x :: y :: r) [c] = x ++ c :: Lib.join (y :: r) [c] := by
      rw [Lib.join_cons, Lib.join_cons, Lib.joinTail]; simp [Lib.joinTail]
    rw [e, cut_hit _ (h x (by simp)), ih]
theorem join_cut (c : UInt8) : ∀ s : Bytes, Lib.join (cut c s) [c] = s
  | [] => by simp [cut, Lib.join_one]
  | b :: r => by
    have ih := join_cut c r
    unfold cut
    by_cases e : b = c
    · rw [if_pos e, Lib.join_cons]
      cases hc : cut c r with
      | nil => exact absurd hc (cut_ne c r)
      | cons h t =>
        rw [hc, Lib.join_cons] at ih
        simp [Lib.joinTail] at ih ⊢
        rw [ih, e]; simp
    · rw [if_neg e]
      cases hc : cut c r with
      | nil => exact absurd hc (cut_ne c r)
      | cons h t =>
        rw [hc, Lib.join_cons] at ih
        simp only
        rw [Lib.join_cons, List.cons_append, ih]
theorem cut_no (c : UInt8) : ∀ (s : Bytes), ∀ x ∈ cut c s, c ∉ x
  | [], x, hx => by simp [cut] at hx; subst hx; simp
  | b :: r, x, hx => by
    unfold cut at hx
    split at hx
    · rcases List.mem_cons.1 hx with rfl | h
      · simp
      · exact cut_no c r x h
    · rename_i hb
      split at hx
      · rename_i h t hc
        rcases List.mem_cons.1 hx with rfl | h'
        · have := cut_no c r h (by rw [hc]; simp)
          simp; exact ⟨fun e => hb e.symm, this⟩
        · exact cut_no c r x (by rw [hc]; simp [h'])
      · simp at hx; subst hx; simp; exact fun e => hb e.symm
end Go.Proofs.YtmmjihalpmahnaaDoor
