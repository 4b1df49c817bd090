/- The document's guard: Table. -/
import Derived.Test.YtmnkkknkmbldhaaWGn2
import Derived.Test.YtmnkkknkmbldhaaWGr1
namespace Go.Proofs.Ytmnkkknkmbldhaa
open Go.RowKit Go.Maps

/-- A list of numbers. -/
abbrev ZSl (w : World) (a : Option Addr) (len cap : Nat) (l : List Int) : Prop := IntSl Try.prog 30 .i64 w a len cap l
/-- What Table answers. -/
def TabR (n : Int) (N : List Gd) (r : Int) (w : World) (e : Ending) (w' : World) : Prop := Below w.heap.size w w' ∧
  ((¬ (0 ≤ n ∧ n ≤ 8) ∧ e = .returned (.tuple #[.slice none 0 0, .int .i64 2])) ∨
    (0 ≤ n ∧ n ≤ 8 ∧ ((tabT N r (2 ^ n.toNat) = none ∧ e = .returned (.tuple #[.slice none 0 0, .int .i64 12])) ∨
      ∃ l a c, tabT N r (2 ^ n.toNat) = some l ∧ e = .returned (.tuple #[.slice a l.length c, .int .i64 0]) ∧ ZSl w' a l.length c l)))
theorem tabT_next {N : List Gd} {r : Int} {k : Nat} {l : List Int} {v : Int} (h : tabT N r k = some l) (hg : goG N k 8 r = some v) : tabT N r (k + 1) = some (l ++ [v]) := by
  simp [tabT, h, hg]
theorem shl_one (n : Nat) (h : n ≤ 8) : wrap64 ((2 : Int) ^ n) = ((2 ^ n : Nat) : Int) := by
  have h1 : (2 : Nat) ^ n ≤ 2 ^ 8 := Nat.pow_le_pow_right (by decide) h
  rw [show (2 : Int) ^ n = ((2 ^ n : Nat) : Int) by simp]
  unfold wrap64
  generalize (2 : Nat) ^ n = q at *
  omega
set_option maxRecDepth 100000 in
set_option maxHeartbeats 4000000 in
theorem Try.rtab_any (n : Int) (a : Option Addr) (len cap : Nat) (N : List Gd) (r : Int) (w : World) (hN : NdSl w a len cap N) (hr : I64 r) :
    Calls Try.prog 21 #[.int .i64 n, .slice a len cap, .int .i64 r] w (TabR n N r w) := by
  obtain ⟨Q, eQ⟩ : ∃ Q, Q = TabR n N r w := ⟨_, rfl⟩
  have HQ : Hid (∀ e w', TabR n N r w e w' → Q e w') := fun e w' h => by rw [eQ]; exact h
  rw [← eQ]
  clear eQ
  by_cases h0 : n < 0
  · have HE : Hid _ := HQ.out _ _ ⟨Below.refl _ _, .inl ⟨by omega, rfl⟩⟩
    clear HQ
    go_enter Try.func21, Try.ntmps21
    go_wp2
    exact HE.out
  by_cases h8 : 8 < n
  · have HE : Hid _ := HQ.out _ _ ⟨Below.refl _ _, .inl ⟨by omega, rfl⟩⟩
    clear HQ
    go_enter Try.func21, Try.ntmps21
    go_wp2
    exact HE.out
  obtain ⟨m, rfl⟩ : ∃ m : Nat, n = (m : Int) := ⟨n.toNat, by omega⟩
  have hm8 : m ≤ 8 := by omega
  have hmin : min m 64 = m := by omega
  have hsh := shl_one m hm8
  have hM : 2 ^ m ≤ 256 := Nat.pow_le_pow_right (by decide) hm8
  have HR : Hid (∀ e w', Below w.heap.size w w' → ((tabT N r (2 ^ m) = none ∧ e = .returned (.tuple #[.slice none 0 0, .int .i64 12])) ∨ ∃ l a c, tabT N r (2 ^ m) = some l ∧ e = .returned (.tuple #[.slice a l.length c, .int .i64 0]) ∧ ZSl w' a l.length c l) → Q e w') := fun e w' hb h => HQ.out e w' ⟨hb, .inr ⟨by omega, by omega, by simpa using h⟩⟩
  clear HQ
  generalize hMM : 2 ^ m = M at *
  clear hMM
  go_enter Try.func21, Try.ntmps21
  go_wp2
  go_loopw [8, 9] (fun v i wr => ∃ (k : Nat) (l : List Int), k ≤ M ∧ i = .int .i64 k ∧ Hid (tabT N r k = some l) ∧ Hid (wr.ownsRow w.heap.size 3 1 v k (l.map (Value.int .i64))) ∧ Hid (Below w.heap.size w wr)) (fun _ i _ => M - (intOf i).toNat)
  case atStart => exact ⟨0, [], Nat.zero_le _, rfl, rfl, ⟨rfl, Or.inl ⟨rfl, rfl⟩⟩, Below.refl _ _⟩
  case round =>
    obtain ⟨k, l, hk, rfl, HT, HO, HB⟩ := hrel
    by_cases hlt : k < M
    · have jg := fun w' (hb : Below w.heap.size w w') => Try.rgo_any a len cap N r k w' (hN.up hb) hr (by omega)
      have jg := jg _ HB.out
      have hkw : IntKind.u8.wrap (k : Int) = (k : Int) := by rw [IntKind.wrap_u8]; omega
      rcases hg : goG N k 8 r with _ | v
      · have HE : Hid _ := HR.out _ _ HB.out (.inl ⟨tabT_none hg M hlt, rfl⟩)
        rw [hg] at jg
        clear HR HT HO HB
        go_wp2_with (go_at_call 19; (with_reducible refine jg.mono ?_); rintro e w' ⟨rfl, hw1⟩; obtain rfl := hw1.symm; dsimp only [goV])
        exact HE.out
      · have HT2 : Hid (tabT N r (k + 1) = some (l ++ [v])) := tabT_next HT.out hg
        rw [hg] at jg
        obtain ⟨va, vc, rfl⟩ := own_slZ HO.out
        have HOA : Hid ((wr.alloc (.cells #[.int .i64 v] 3)).ownsRow w.heap.size 3 1 (.slice va k vc) k (l.map (Value.int .i64))) := World.ownsRow.alloc HO.out _
        have HCA : Hid ((wr.alloc (.cells #[.int .i64 v] 3)).cell? ⟨wr.heap.size, 0, none⟩ = some (.int .i64 v)) := cell_row (MapKept.heap_alloc wr _).1 0
        have HWA : Hid (Below w.heap.size w (wr.alloc (.cells #[.int .i64 v] 3))) := HB.out.alloc HB.out.size _
        have hszA : w.heap.size ≤ (wr.alloc (.cells #[.int .i64 v] 3)).heap.size := HWA.out.size
        have HGE : Hid (∀ q, (Value.slice va k vc).ownBlock = some q → w.heap.size ≤ q) := own_ge HO.out
        clear HO HB HT hg
        go_wp2_with (first
          | (go_at_call 19; (with_reducible refine jg.mono ?_); rintro e w' ⟨rfl, hw1⟩; obtain rfl := hw1.symm; dsimp only [goV])
          | (at_builtin; refine Try.append_z rfl _ _ rfl w.heap.size _ k l rfl HOA.out wr.heap.size v rfl HCA.out (by omega) hszA ?_))
        intro v7 w7 hown7 hgr7
        have HO7 : Hid (w7.ownsRow w.heap.size 3 1 v7 (k + 1) ((l ++ [v]).map (Value.int .i64))) := by show World.ownsRow _ _ _ _ _ _ _; simpa using hown7
        have HW7 : Hid (Below w.heap.size w w7) := HWA.out.grown hgr7 hszA (fun q e => HGE.out q e)
        clear hown7 hgr7 HOA HCA HWA hszA HGE
        go_wp2
        go_roundw
        case rel => exact ⟨k + 1, l ++ [v], by omega, by go_num, HT2, HO7, HW7⟩
        case measure => simp [intOf]; omega
    · obtain rfl : k = M := by omega
      obtain ⟨va, vc, rfl, hU, _⟩ := ownZ_sl HO.out Try.underlying30 Try.sizeInt
      have hl : l.length = k := hU.hlen
      have HE : Hid _ := HR.out _ _ HB.out (.inr ⟨l, va, vc, HT.out, rfl, by rw [hl]; exact hU⟩)
      rw [hl] at HE
      clear HR HT HO HB hU hl
      go_wp2
      exact HE.out
end Go.Proofs.Ytmnkkknkmbldhaa
