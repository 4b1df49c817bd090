/- Stage 9's contracts hold of the landed package table. -/
import Derived.Test.YtbfhbpibpmgblaaWTmB
import Derived.Test.YtbfhbpibpmgblaaWTb4
import Derived.Test.YtbfhbpibpmgblaaWTb5
namespace Go.Proofs.Ytbfhbpibpmgblaa
open Go.RowKit Go.Maps

theorem itemOf_op (k : Tk) (a : List Nat) : (itemOf k a).op = k.1 ∧ (itemOf k a).p = k.2 := by
  match a with
  | [] => exact ⟨rfl, rfl⟩
  | [_] => exact ⟨rfl, rfl⟩
  | _ :: _ :: _ => exact ⟨rfl, rfl⟩
theorem rep_ok {items : List It} (hok : ∀ x ∈ items, ItOk x) : ∀ {n : Nat} {T : Tr}, Rep items n T → ∀ k ∈ T.flat, k.1 < 256 ∧ k.2 < 256 := by
  have one : ∀ {n : Nat} {k : Tk} {a : List Nat}, items[n]? = some (itemOf k a) → k.1 < 256 ∧ k.2 < 256 := fun {n k a} h => by
    have := hok _ (List.mem_of_getElem? h)
    have e := itemOf_op k a
    unfold ItOk at this
    rw [e.1, e.2] at this
    exact ⟨this.1, this.2.1⟩
  intro n T h
  induction h with
  | leaf h => intro k hk; simp [Tr.flat] at hk; subst hk; exact one h
  | un h _ _ ih =>
    intro k hk
    simp [Tr.flat] at hk
    rcases hk with hk | rfl
    · exact ih k hk
    · exact one h
  | bin h _ _ _ _ ih jh =>
    intro k hk
    simp [Tr.flat] at hk
    rcases hk with hk | hk | rfl
    · exact ih k hk
    · exact jh k hk
    · exact one h
theorem own_intSl64 {w : World} {base n cap : Nat} {a : Option Addr} {zs : List Int} (h : w.ownsRow base 3 1 (.slice a n cap) n (zs.map (Value.int .i64))) : IntSl Try.prog 41 .i64 w a n cap zs ∧ ∀ k, k < n → base ≤ (adOf a k).block := by
  have hlen : zs.length = n := by have := h.1; simpa using this
  rcases h.2 with ⟨e, e0⟩ | ⟨g, cap', cur, e, hg, hcell, hnc, hcm, _, htk⟩
  · injection e with e1 _ e3
    subst e1 e3 e0
    refine ⟨⟨hlen, Nat.le_refl _, Nat.zero_le _, fun n k w' hk hn => absurd hk (by omega), fun k hk => absurd hk (by omega), fun k hk => absurd hk (by omega), fun _ => rfl⟩, fun k hk => absurd hk (by omega)⟩
  · injection e with e1 _ e3
    subst e1 e3
    have had : ∀ k, adOf (some ⟨g, 0, none⟩) k = ⟨g, k, none⟩ := fun k => by simp [adOf, add_plain]
    refine ⟨⟨hlen, hnc, hcm, fun m k w' hk hn => idx_of Try.underlying41 Try.sizeIntM (fun e => by cases e) k w' hk, fun k hk => ?_, fun k hk => ?_, fun e => by cases e⟩, fun k hk => by rw [had]; exact hg⟩
    · rw [had, cell_row hcell]
      have : cur.toList[k]? = (zs.map (Value.int .i64))[k]? := by rw [← htk, List.getElem?_take, if_pos (by omega)]
      rw [← Array.getElem?_toList, this]
      have hkz : k < zs.length := by omega
      simp [List.getD_eq_getElem?_getD, hkz]
    · rw [had]
      exact (Array.getElem?_eq_some_iff.1 hcell).1
theorem Try.tabC : TabC TabT where
  is h := h.2
  lt h := h.1.lt
  far h hb := ⟨h.1.far hb, h.2⟩
  new w := (Try.tnew_any w).mono fun e w' ⟨t, F, h1, h2, h3, h4⟩ => ⟨t, F, h1, ⟨h2, tabIs_nil⟩, h3, h4⟩
  keep a len cap ts h hT hA := Try.tkeep_any a len cap ts h hT hA
  find a len cap ts h hT hA := Try.tfind_any a len cap ts h hT hA
  len h := (Try.tlen_any h.1).mono fun e w' ⟨h1, h2⟩ => ⟨h1, by subst h2; exact Fr.self h (Below.refl _ _)⟩
  item n x h hx := (Try.titem_any h.1 n x hx).mono fun e w' ⟨h1, h2⟩ => ⟨h1, Fr.self h h2⟩
  text {w F t items} n T h hR hl := (Try.tText_any n T h.1 hR hl).mono fun e w' ⟨a, cap, h1, h2, h3⟩ => by
    obtain ⟨a', c', e', hT, hb⟩ := own_tk h2 (rep_ok h.1.ok hR)
    injection e' with e1 _ e3
    subst e1 e3
    refine ⟨a, cap, F, h1, hT, fun _ x hx hf => ?_, ⟨h.1.up h3, h.2⟩, Fr.same h3⟩
    have := (hb x hx).1
    have := h.1.lt _ hf
    omega
theorem Try.tabC2 : TabC2 TabT where
  miss i h hi := (Try.tText_miss i h.1 hi).mono fun e w' ⟨h1, h2⟩ => by
    subst h2
    obtain ⟨F', h3, h4⟩ := Fr.self h (Below.refl _ _)
    exact ⟨none, 0, 0, F', h1, h3, h4⟩
  below {w F t items} n h hn := (Try.tbelow_any n h.1 h.2.low hn).mono fun e w' ⟨a, cap, h1, h2, h3⟩ => by
    obtain ⟨q1, q2⟩ := own_intSl64 h2
    refine ⟨a, cap, F, h1, q1, fun k hk hf => ?_, ⟨h.1.up h3, h.2⟩, Fr.same h3⟩
    have := q2 k hk
    have := h.1.lt _ hf
    omega
theorem Try.tonce_land (a : Option Addr) (la ca : Nat) (rs : List Pc) (w : World) (hA : RwSl w a la ca rs) :
    Calls Try.prog 4 #[.slice a la ca] w fun e w' => e = .returned (.bool true) ∧ Below w.heap.size w w' := Try.tonce_any Try.tabC a la ca rs w hA
theorem Try.tknown_land (w : World) : Calls Try.prog 6 #[] w fun e w' => e = .returned (.bool true) ∧ Below w.heap.size w w' := Try.tknown_any Try.tabC Try.tabC2 w
end Go.Proofs.Ytbfhbpibpmgblaa
