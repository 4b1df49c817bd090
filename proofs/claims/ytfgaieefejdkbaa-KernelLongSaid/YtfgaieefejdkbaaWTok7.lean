/- The document's kind, Check, Path. -/
import Derived.Test.YtfgaieefejdkbaaWTok6
import Derived.Test.YtfgaieefejdkbaaWTe4
namespace Go.Proofs.Ytfgaieefejdkbaa
open Go.RowKit Go.Maps

def wantOf (f p : Bool) : Nat := if f then (if p then 4 else 1) else 3
/-- What the document's kind answers. -/
def KindR (T : TypeId) (E : Nat) (all : List Pt) (w : World) (e : Ending) (w' : World) : Prop :=
  ∃ v, e = .returned (.tuple #[v, .int .i64 (E : Int)]) ∧ (E = 0 → w'.ownsRow w.heap.size T 4 v all.length (encP all)) ∧ (E ≠ 0 → v = .slice none 0 0)
theorem read_deps {ts : List Tk} {all : List Pt} {p : Pt} (h : readP ts 0 [] = some (all, [p])) : (∃ q ∈ all, 64 < q.dep) ↔ 64 < p.dep := by
  obtain ⟨t, h1, h2, h3, h4⟩ := read_one.1 h
  subst h3 h4
  constructor
  · rintro ⟨q, hq, h5⟩
    have := parts_dep t 0 q hq
    omega
  · intro h5
    obtain ⟨q, hq, _⟩ := parts_last t 0
    exact ⟨_, by rw [hq]; simp, h5⟩
theorem want_is {f p : Bool} (h : (f || p) = true) (q : Pt) : isK (kindOf q) (wantOf f p) = ((q.path && p) || (!q.path && f)) := by
  obtain ⟨a, b, c, d⟩ := q
  cases f <;> cases p <;> cases a <;> cases b <;> first | rfl | cases h
set_option maxHeartbeats 4000000 in
theorem Try.kind_any (a : Option Addr) (len cap : Nat) (f p : Bool) (ts : List Tk) (w : World) (hT : TkSl w a len cap ts) (hfp : (f || p) = true) :
    Calls Try.prog 56 #[.slice a len cap, .bool f, .bool p] w fun e w' => KindR 65 (lookE ts (wantOf f p)) (allP ts) w e w' ∧ Below w.heap.size w w' := by
  have hlen := hT.hlen
  have hlm := hT.hcap
  have hbm := hT.bd
  by_cases h512 : 512 < len
  · have HE : Hid (lookE ts (wantOf f p) = 3) := by show _ = _; unfold lookE; rw [if_pos (by omega)]
    have hg : (512 : Int) < (len : Int) := by omega
    go_enter Try.func56, Try.ntmps56
    go_wp2
    go_ret2
    rw [HE.out]
    exact ⟨⟨_, rfl, fun h => absurd h (by decide), fun _ => rfl⟩, Below.refl _ _⟩
  · have hg : ¬ 512 < len := h512
    have hr := fun w' (h : TkSl w' a len cap ts) => Try.Read_any a len cap ts w' h (by omega)
    have HE : Hid (lookE ts (wantOf f p) = lookOf (readP ts 0 []) (wantOf f p)) := by show _ = _; unfold lookE; rw [if_neg (by omega)]
    have HA : Hid (allP ts = match readP ts 0 [] with | some x => x.1 | none => []) := rfl
    have HL : Hid (∀ all p, readP ts 0 [] = some (all, [p]) → ((∃ q ∈ all, 64 < q.dep) ↔ 64 < p.dep)) := fun all p h => read_deps h
    have HW : Hid _ := want_is hfp
    have HN : Hid (∀ all st, readP ts 0 [] = some (all, st) → all.length = ts.length) := fun all st h => read_length ts 0 [] all st h
    generalize lookE ts (wantOf f p) = E at *
    generalize allP ts = A at *
    go_enter Try.func56, Try.ntmps56
    go_wp2_with fail
    refine (hr _ hT).mono ?_
    rintro e w1 ⟨hR, hw1⟩
    generalize readP ts 0 [] = R at *
    cases R with
    | none =>
      have he : e = _ := hR
      subst he
      have HE7 : Hid (E = 7) := HE.out
      go_wp2
      go_ret2
      rw [HE7.out]
      exact ⟨⟨_, rfl, fun h => absurd h (by decide), fun _ => rfl⟩, hw1⟩
    | some x =>
      obtain ⟨all, st⟩ := x
      obtain ⟨v1, v2, rfl, hown1, hown2⟩ := hR
      have HO1 : Hid (World.ownsRow _ _ _ _ _ _ _) := hown1
      have HO2 : Hid (World.ownsRow _ _ _ _ _ _ _) := hown2
      have HAE : Hid (A = all) := HA.out
      have HNL := HN.out all st rfl
      clear hown1 hown2 HA HN
      dsimp only at *
      obtain ⟨a2, g2, cap2, rfl, hsh, hP2, _, _⟩ := own_pt HO2.out Try.underlying61 Try.sizePart
      obtain ⟨a1, g1, cap1, rfl, _, hP1, _, _⟩ := own_pt HO1.out Try.underlying61 Try.sizePart
      by_cases hone : st.length = 1
      · obtain ⟨q, rfl⟩ := List.length_eq_one_iff.1 hone
        have HE2 : Hid (E = if isK (kindOf q) (wantOf f p) then (if 64 < q.dep then 8 else 0) else 7) := HE.out
        have hdq := HL.out all q rfl
        have hix : ∀ w', (Instr.indexAt 61 (.slice a2 1 cap2) (.int .i64 0)).run Try.prog w' = .ok (.pointer (some ⟨g2, 0 + 4 * 0, none⟩)) w' := fun w' => hP2.idx 1 0 w' (by decide) (Nat.le_refl _)
        have hc0 : w1.cell? ⟨g2, 0 + 4 * 0, none⟩ = some (.bool q.path) := hP2.c0 0 (by simp)
        clear HE HL hone hP2 hsh HO2
        have HI := HW.out q
        rw [HI] at HE2
        clear HI HW
        generalize 0 + 4 * 0 = z0 at *
        generalize hqp : q.path = b at *
        have HP1 : Hid _ := hP1
        dsimp only [List.length_singleton] at *
        have hfail : ((b && p) || (!b && f)) = false → Hid (E = 7) := fun h => by show _ = _; rw [HE2.out, h]; rfl
        have hgood : ((b && p) || (!b && f)) = true → Hid (E = if 64 < q.dep then 8 else 0) := fun h => by show _ = _; rw [HE2.out, h]; rfl
        clear HE2
        cases hbb : ((b && p) || (!b && f)) with
        | false =>
          have HE7 := hfail hbb
          have hw2 : ∀ (x y : Bool), True := fun _ _ => trivial
          clear hfail hgood
          cases b <;> cases p <;> cases f <;> first | (exfalso; revert hbb; decide) | (exfalso; revert hfp; decide) | skip
          all_goals
            go_wp2
            go_ret2
            rw [HE7.out]
            exact ⟨⟨_, rfl, fun h => absurd h (by decide), fun _ => rfl⟩, hw1⟩
        | true =>
          have HEG := hgood hbb
          have hl2 : all.length ≤ 512 := by omega
          clear hfail hgood HNL hP1
          obtain ⟨L, hL⟩ : ∃ L, L = all.length := ⟨_, rfl⟩
          have HLE : Hid (L = all.length) := hL
          have HO1L : Hid (World.ownsRow w1 w.heap.size 65 4 (.slice a1 L cap1) all.length (encP all)) := by rw [hL]; exact HO1.out
          have HPL : Hid (PtSl Try.prog 61 w1 a1 g1 0 L cap1 all) := by rw [hL]; exact HP1.out
          rw [← hL] at hl2 ⊢
          have HDQ : Hid _ := hdq
          clear hL HO1 HP1 hdq
          cases b <;> cases p <;> cases f <;> first | (exfalso; revert hbb; decide) | (exfalso; revert hfp; decide) | skip
          all_goals
            go_wp2
            go_loopw [11] (fun j wr => ∃ k : Nat, k ≤ L ∧ j = .int .i64 k ∧ Hid (∀ x ∈ all.take k, x.dep ≤ 64) ∧ wr = w1) (fun j _ => L - (intOf j).toNat)
            case atStart => exact ⟨0, Nat.zero_le _, rfl, by intro x hx; simp at hx, rfl⟩
            case round =>
              obtain ⟨k, hk, rfl, HU, hwr⟩ := hrel
              obtain rfl : w1 = wr := hwr.symm
              by_cases hlt : k < L
              · have hka : k < all.length := by rw [← HLE.out]; exact hlt
                have hidx := fun w' => HPL.out.idx L k w' hlt (Nat.le_refl _)
                have hc2 := HPL.out.c2 k hka
                generalize 0 + 4 * k = oo at hidx hc2
                have HN : Hid (all[k].dep ≤ 64 → ∀ x ∈ all.take (k + 1), x.dep ≤ 64) := fun h x hx => by
                  rw [List.take_add_one, List.getElem?_eq_getElem hka] at hx
                  rcases List.mem_append.1 hx with h1 | h1
                  · exact HU.out x h1
                  · simp at h1; rw [h1]; exact h
                have HF : Hid (64 < all[k].dep → E = 8) := fun h => by
                  rw [HEG.out, if_pos (HDQ.out.1 ⟨_, List.getElem_mem hka, h⟩)]
                generalize all[k].dep = d at *
                by_cases hd : 64 < d
                · have hd' : (64 : Int) < (d : Int) := by omega
                  have HE8 : Hid (E = 8) := HF.out hd
                  go_wp2
                  go_ret2
                  rw [HE8.out]
                  exact ⟨⟨_, rfl, fun h => absurd h (by decide), fun _ => rfl⟩, hw1⟩
                · have HN2 : Hid _ := HN.out (by omega)
                  go_wp2
                  go_roundw
                  case rel => exact ⟨k + 1, by omega, by go_num, HN2, trivial⟩
                  case measure => simp [intOf]; omega
              · obtain rfl : k = L := by omega
                have HE0 : Hid (E = 0) := by
                  show _ = _
                  rw [HEG.out, if_neg]
                  intro h
                  obtain ⟨q', h1, h2⟩ := HDQ.out.2 h
                  have := HU.out q' (by rw [List.take_of_length_le (by rw [HLE.out]; exact Nat.le_refl _)]; exact h1)
                  omega
                go_wp2
                go_ret2
                rw [HE0.out]
                exact ⟨⟨_, rfl, fun _ => by rw [HAE.out]; exact HO1L.out, fun h => absurd rfl h⟩, hw1⟩
      · have HE7 : Hid (E = 7) := by
          show _ = _
          rw [HE.out]
          match st, hone with
          | [], _ => rfl
          | [p], h => exact absurd rfl h
          | x :: y :: r, _ => rfl
        have hq : ((st.length : Int) != 1) = true := by simp; omega
        go_wp2
        go_ret2
        rw [HE7.out]
        exact ⟨⟨_, rfl, fun h => absurd h (by decide), fun _ => rfl⟩, hw1⟩
end Go.Proofs.Ytfgaieefejdkbaa
