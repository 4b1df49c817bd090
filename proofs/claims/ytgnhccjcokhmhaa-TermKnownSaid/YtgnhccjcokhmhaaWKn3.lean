/- The law TermKnown. -/
import Derived.Test.YtgnhccjcokhmhaaWTl1
import Derived.Test.YtgnhccjcokhmhaaWTok8
import Derived.Test.YtgnhccjcokhmhaaWTn1
namespace Go.Proofs.Ytgnhccjcokhmhaa
open Go.RowKit Go.Maps

theorem Try.t_lit (zs : List Int) (ts : List Tk) (w : World) (he : zs.map tokOf = ts) (hz : ∀ z ∈ zs, 0 ≤ z ∧ z < 356) (hl : zs.length ≤ 10) :
    Calls Try.prog 36 #[.slice (some ⟨w.heap.size, 0, none⟩) zs.length zs.length] (w.alloc (.cells (zs.map (Value.int .i64)).toArray 3)) (fun e w' => ∃ a cap, e = .returned (.slice a zs.length cap) ∧ TkSl w' a zs.length cap ts ∧ Below w.heap.size w w') := by
  have h1 : (w.alloc (.cells (zs.map (Value.int .i64)).toArray 3)).ownsRow w.heap.size 3 1 (.slice (some ⟨w.heap.size, 0, none⟩) zs.length zs.length) zs.length (zs.map (Value.int .i64)) := RowI.owns (cur := zs) (MapKept.heap_alloc w _).1 (Nat.le_refl _) rfl (by unfold maxLen; omega)
  obtain ⟨a, cap, h2, h3, _⟩ := ownI_sl h1 Try.underlying25 Try.sizeInt
  injection h2 with h2 _ h4
  rw [← h2, ← h4] at h3
  refine (Try.t_any _ _ _ zs _ h3 hz (by omega)).mono ?_
  rintro e w' ⟨v, rfl, h5, h6⟩
  rw [he] at h5
  obtain ⟨a', cap', rfl, h7, _⟩ := own_tk h5 (fun t ht => by
    rw [← he] at ht
    obtain ⟨z, hz1, rfl⟩ := List.mem_map.1 ht
    exact tokOf_ok (hz z hz1).1 (hz z hz1).2)
  have hlen : ts.length = zs.length := by rw [← he]; simp
  rw [hlen] at h7
  exact ⟨a', cap', by rw [hlen], h7, below_step (below_new w _) h6⟩
theorem Try.chk_lit (op p E : Nat) (w : World) (hE : lookE [(op, p)] 1 = E) (ho : op < 256) (hp : p < 256) :
    Calls Try.prog 18 #[.slice (some ⟨w.heap.size, 0, none⟩) 1 1] (w.alloc (.cells #[.int .u8 (op : Int), .int .u8 (p : Int)] 50)) (fun e w' => e = .returned (.int .i64 (E : Int)) ∧ Below w.heap.size w w') := by
  refine (Try.check_any _ 1 1 [(op, p)] _ (blk_tk (Blk.new w 50 op p) ho hp)).mono ?_
  rintro e w' ⟨rfl, h⟩
  rw [hE]
  exact ⟨rfl, below_step (below_new w _) h⟩
theorem Try.sameI_lit (zs : List Int) (a : Option Addr) (cap : Nat) (w : World) (hI : IntSl Try.prog 25 .i64 w a zs.length cap zs) (hl : zs.length ≤ 10) :
    Calls Try.prog 22 #[.slice a zs.length cap, .slice (some ⟨w.heap.size, 0, none⟩) zs.length zs.length] (w.alloc (.cells (zs.map (Value.int .i64)).toArray 3)) (fun e w' => e = .returned (.bool true) ∧ Below w.heap.size w w') := by
  have h1 : (w.alloc (.cells (zs.map (Value.int .i64)).toArray 3)).ownsRow w.heap.size 3 1 (.slice (some ⟨w.heap.size, 0, none⟩) zs.length zs.length) zs.length (zs.map (Value.int .i64)) := RowI.owns (cur := zs) (MapKept.heap_alloc w _).1 (Nat.le_refl _) rfl (by unfold maxLen; omega)
  obtain ⟨a', cap', h2, h3, _⟩ := ownI_sl h1 Try.underlying25 Try.sizeInt
  injection h2 with h2 _ h4
  rw [← h2, ← h4] at h3
  refine (Try.sameI_any _ _ _ _ _ _ _ _ _ (hI.up (below_new w _)) h3).mono ?_
  rintro e w' ⟨rfl, h⟩
  exact ⟨by simp, below_step (below_new w _) (below_of_drew h)⟩
def deepTs (k : Nat) : List Tk := (2, 0) :: List.replicate k (6, 0)
theorem deepTs_len (k : Nat) : (deepTs k).length = k + 1 := by simp [deepTs]
theorem deepTs_next (k : Nat) : deepTs (k + 1) = deepTs k ++ [(6, 0)] := by
  unfold deepTs; rw [List.replicate_succ']; rfl
theorem deepTs_ok (k : Nat) : ∀ t ∈ deepTs k, t.1 < 256 ∧ t.2 < 256 := by
  intro t ht
  unfold deepTs at ht
  rcases List.mem_cons.1 ht with rfl | h
  · decide
  · rw [(List.mem_replicate.1 h).2]; decide
theorem deep_look : lookE (deepTs 63) 1 = 0 := by decide +kernel
theorem deep_un : unE 6 (deepTs 63) = 8 := by decide +kernel
theorem deep_len {w : World} {base e k : Nat} {v : Value} (h : w.ownsRow base e 2 v (k + 1) (encT (deepTs k))) : w.ownsRow base e 2 v (deepTs k).length (encT (deepTs k)) := by rw [deepTs_len]; exact h
theorem deep_step {w : World} {base e k : Nat} {v : Value} (h : w.ownsRow base e 2 v (k + 1 + 1) (encT (deepTs k ++ [(6, 0)]))) : w.ownsRow base e 2 v (k + 1 + 1) (encT (deepTs (k + 1))) := by
  rw [← deepTs_next] at h; exact h
theorem Try.t_deep (w : World) : Calls Try.prog 36 #[.slice (some ⟨w.heap.size, 0, none⟩) 1 1] (w.alloc (.cells #[.int .i64 0] 3)) (fun e w' => ∃ v, e = .returned v ∧ w'.ownsRow w.heap.size 50 2 v 1 (encT (deepTs 0)) ∧ Below w.heap.size w w') := by
  have h1 : (w.alloc (.cells ([(0 : Int)].map (Value.int .i64)).toArray 3)).ownsRow w.heap.size 3 1 (.slice (some ⟨w.heap.size, 0, none⟩) 1 1) 1 ([(0 : Int)].map (Value.int .i64)) := RowI.owns (cur := [0]) (MapKept.heap_alloc w _).1 (Nat.le_refl _) rfl (by decide)
  obtain ⟨a, cap, h2, h3, _⟩ := ownI_sl h1 Try.underlying25 Try.sizeInt
  injection h2 with h2 _ h4
  rw [← h2, ← h4] at h3
  refine (Try.t_any _ _ _ [0] _ h3 (by decide) (by decide)).mono ?_
  rintro e w' ⟨v, rfl, h5, h6⟩
  exact ⟨v, rfl, owns_base h5 (by simp), below_step (below_new w _) h6⟩
theorem Try.known_long : ∃ AR : Array Value, (∀ w, (Instr.makeSlice 22 (.int .i64 513) (.int .i64 513)).run Try.prog w = .ok (.slice (some ⟨w.heap.size, 0, none⟩) 513 513) (w.alloc (.cells AR 50))) ∧
    ∀ w, Calls Try.prog 18 #[.slice (some ⟨w.heap.size, 0, none⟩) 513 513] (w.alloc (.cells AR 50)) (fun e w' => e = .returned (.int .i64 3) ∧ Below w.heap.size w w') := by
  obtain ⟨Z, hZ⟩ : ∃ Z : List Tk, Z = List.replicate 513 (0, 0) := ⟨_, rfl⟩
  have hl : Z.length = 513 := by rw [hZ, List.length_replicate]
  have hok : ∀ t ∈ Z, t.1 < 256 ∧ t.2 < 256 := fun t ht => by rw [hZ] at ht; rw [(List.mem_replicate.1 ht).2]; decide
  have hE : lookE Z 1 = 3 := by unfold lookE; rw [if_pos (by omega)]
  refine ⟨(encT Z).toArray, fun w => ?_, fun w => ?_⟩
  · rw [hZ]; exact Try.makeTok 513 513 rfl (by decide) w
  · have hR : RowT (w.alloc (.cells (encT Z).toArray 50)) 50 w.heap.size Z := (MapKept.heap_alloc w _).1
    have hT := hR.tk (n := 513) (by omega) (by rw [hl]; decide) hok
    rw [List.take_of_length_le (by omega), hl] at hT
    refine (Try.check_any _ 513 513 Z _ hT).mono ?_
    rintro e w' ⟨rfl, h⟩
    rw [hE]
    exact ⟨rfl, below_step (below_new w _) h⟩
set_option maxRecDepth 100000 in
set_option maxHeartbeats 16000000 in
theorem Try.termKnown_any (w0 : World) :
    Calls Try.prog 7 #[] w0 fun e w' => e = .returned (.bool true) ∧ Below w0.heap.size w0 w' := by
  obtain ⟨AR, mk, hck⟩ := Try.known_long
  have hb0 := Below.refl w0.heap.size w0
  have o15 : ∀ w', Calls Try.prog 35 #[.int .u8 15] w' (fun e w'' => e = .returned (.int .i64 115) ∧ Below w'.heap.size w' w'') := fun w' => (Try.op_any 15 w' (by decide)).mono (fun e w'' h => ⟨h.1, h.2 ▸ Below.refl _ _⟩)
  have o11 : ∀ w', Calls Try.prog 35 #[.int .u8 11] w' (fun e w'' => e = .returned (.int .i64 111) ∧ Below w'.heap.size w' w'') := fun w' => (Try.op_any 11 w' (by decide)).mono (fun e w'' h => ⟨h.1, h.2 ▸ Below.refl _ _⟩)
  have o6 : ∀ w', Calls Try.prog 35 #[.int .u8 6] w' (fun e w'' => e = .returned (.int .i64 106) ∧ Below w'.heap.size w' w'') := fun w' => (Try.op_any 6 w' (by decide)).mono (fun e w'' h => ⟨h.1, h.2 ▸ Below.refl _ _⟩)
  have o19 : ∀ w', Calls Try.prog 35 #[.int .u8 19] w' (fun e w'' => e = .returned (.int .i64 119) ∧ Below w'.heap.size w' w'') := fun w' => (Try.op_any 19 w' (by decide)).mono (fun e w'' h => ⟨h.1, h.2 ▸ Below.refl _ _⟩)
  have o17 : ∀ w', Calls Try.prog 35 #[.int .u8 17] w' (fun e w'' => e = .returned (.int .i64 117) ∧ Below w'.heap.size w' w'') := fun w' => (Try.op_any 17 w' (by decide)).mono (fun e w'' h => ⟨h.1, h.2 ▸ Below.refl _ _⟩)
  have o23 : ∀ w', Calls Try.prog 35 #[.int .u8 23] w' (fun e w'' => e = .returned (.int .i64 123) ∧ Below w'.heap.size w' w'') := fun w' => (Try.op_any 23 w' (by decide)).mono (fun e w'' h => ⟨h.1, h.2 ▸ Below.refl _ _⟩)
  have o7 : ∀ w', Calls Try.prog 35 #[.int .u8 7] w' (fun e w'' => e = .returned (.int .i64 107) ∧ Below w'.heap.size w' w'') := fun w' => (Try.op_any 7 w' (by decide)).mono (fun e w'' h => ⟨h.1, h.2 ▸ Below.refl _ _⟩)
  have o18 : ∀ w', Calls Try.prog 35 #[.int .u8 18] w' (fun e w'' => e = .returned (.int .i64 118) ∧ Below w'.heap.size w' w'') := fun w' => (Try.op_any 18 w' (by decide)).mono (fun e w'' h => ⟨h.1, h.2 ▸ Below.refl _ _⟩)
  have o14 : ∀ w', Calls Try.prog 35 #[.int .u8 14] w' (fun e w'' => e = .returned (.int .i64 114) ∧ Below w'.heap.size w' w'') := fun w' => (Try.op_any 14 w' (by decide)).mono (fun e w'' h => ⟨h.1, h.2 ▸ Below.refl _ _⟩)
  go_enter Try.func7, Try.ntmps7
  go_wp2_with fail
  refine (o15 _).mono ?_
  rintro e w1 ⟨rfl, hw1⟩
  have hb1 := below_step hb0 hw1
  clear hb0 hw1
  go_wp2_with fail
  refine (o11 _).mono ?_
  rintro e w2 ⟨rfl, hw2⟩
  have hb2 := below_step hb1 hw2
  clear hb1 hw2
  go_wp2_with fail
  refine (o6 _).mono ?_
  rintro e w3 ⟨rfl, hw3⟩
  have hb3 := below_step hb2 hw3
  clear hb2 hw3
  go_wp2_with fail
  refine (o19 _).mono ?_
  rintro e w4 ⟨rfl, hw4⟩
  have hb4 := below_step hb3 hw4
  clear hb3 hw4
  go_wp2_with fail
  refine (o17 _).mono ?_
  rintro e w5 ⟨rfl, hw5⟩
  have hb5 := below_step hb4 hw5
  clear hb4 hw5
  have ht : Calls Try.prog 36 #[.slice (some ⟨w5.heap.size, 0, none⟩) 3 3] (w5.alloc (.cells #[.int .i64 0, .int .i64 1, .int .i64 115] 3)) (fun e w' => ∃ a cap, e = .returned (.slice a 3 cap) ∧ TkSl w' a 3 cap [(2, 0), (2, 1), (15, 0)] ∧ Below w5.heap.size w5 w') := Try.t_lit [0, 1, 115] [(2, 0), (2, 1), (15, 0)] w5 (by decide) (by decide) (by decide)
  go_wp2_with fail
  refine ht.mono ?_
  rintro e w6 ⟨a6, c6, rfl, tA_6, hw6⟩
  clear ht
  have hb6 := below_step hb5 hw6
  clear hb5 hw6
  have h := Try.check_any a6 3 c6 _ w6 tA_6
  rw [show lookE [(2, 0), (2, 1), (15, 0)] 1 = 0 from by decide] at h
  go_wp2_with fail
  refine h.mono ?_
  rintro e w7 ⟨rfl, hw7⟩
  clear h
  have hb7 := below_step hb6 hw7
  clear hb6 hw7
  have ht : Calls Try.prog 36 #[.slice (some ⟨w7.heap.size, 0, none⟩) 1 1] (w7.alloc (.cells #[.int .i64 0] 3)) (fun e w' => ∃ a cap, e = .returned (.slice a 1 cap) ∧ TkSl w' a 1 cap [(2, 0)] ∧ Below w7.heap.size w7 w') := Try.t_lit [0] [(2, 0)] w7 (by decide) (by decide) (by decide)
  go_wp2_with fail
  refine ht.mono ?_
  rintro e w8 ⟨a8, c8, rfl, tA_8, hw8⟩
  clear ht
  have hb8 := below_step hb7 hw8
  clear hb7 hw8
  have h := Try.check_any a8 1 c8 _ w8 tA_8
  rw [show lookE [(2, 0)] 1 = 0 from by decide] at h
  go_wp2_with fail
  refine h.mono ?_
  rintro e w9 ⟨rfl, hw9⟩
  clear h
  have hb9 := below_step hb8 hw9
  clear hb8 hw9
  have h := Try.check_any none 0 0 [] w9 TkSl.nil
  rw [show lookE [] 1 = 7 from by decide] at h
  go_wp2_with fail
  refine h.mono ?_
  rintro e w10 ⟨rfl, hw10⟩
  clear h
  have hb10 := below_step hb9 hw10
  clear hb9 hw10
  have ht : Calls Try.prog 36 #[.slice (some ⟨w10.heap.size, 0, none⟩) 2 2] (w10.alloc (.cells #[.int .i64 0, .int .i64 115] 3)) (fun e w' => ∃ a cap, e = .returned (.slice a 2 cap) ∧ TkSl w' a 2 cap [(2, 0), (15, 0)] ∧ Below w10.heap.size w10 w') := Try.t_lit [0, 115] [(2, 0), (15, 0)] w10 (by decide) (by decide) (by decide)
  go_wp2_with fail
  refine ht.mono ?_
  rintro e w11 ⟨a11, c11, rfl, tA_11, hw11⟩
  clear ht
  have hb11 := below_step hb10 hw11
  clear hb10 hw11
  have h := Try.check_any a11 2 c11 _ w11 tA_11
  rw [show lookE [(2, 0), (15, 0)] 1 = 7 from by decide] at h
  go_wp2_with fail
  refine h.mono ?_
  rintro e w12 ⟨rfl, hw12⟩
  clear h
  have hb12 := below_step hb11 hw12
  clear hb11 hw12
  have ht : Calls Try.prog 36 #[.slice (some ⟨w12.heap.size, 0, none⟩) 2 2] (w12.alloc (.cells #[.int .i64 0, .int .i64 1] 3)) (fun e w' => ∃ a cap, e = .returned (.slice a 2 cap) ∧ TkSl w' a 2 cap [(2, 0), (2, 1)] ∧ Below w12.heap.size w12 w') := Try.t_lit [0, 1] [(2, 0), (2, 1)] w12 (by decide) (by decide) (by decide)
  go_wp2_with fail
  refine ht.mono ?_
  rintro e w13 ⟨a13, c13, rfl, tA_13, hw13⟩
  clear ht
  have hb13 := below_step hb12 hw13
  clear hb12 hw13
  have h := Try.check_any a13 2 c13 _ w13 tA_13
  rw [show lookE [(2, 0), (2, 1)] 1 = 7 from by decide] at h
  go_wp2_with fail
  refine h.mono ?_
  rintro e w14 ⟨rfl, hw14⟩
  clear h
  have hb14 := below_step hb13 hw14
  clear hb13 hw14
  have ht : Calls Try.prog 36 #[.slice (some ⟨w14.heap.size, 0, none⟩) 2 2] (w14.alloc (.cells #[.int .i64 0, .int .i64 119] 3)) (fun e w' => ∃ a cap, e = .returned (.slice a 2 cap) ∧ TkSl w' a 2 cap [(2, 0), (19, 0)] ∧ Below w14.heap.size w14 w') := Try.t_lit [0, 119] [(2, 0), (19, 0)] w14 (by decide) (by decide) (by decide)
  go_wp2_with fail
  refine ht.mono ?_
  rintro e w15 ⟨a15, c15, rfl, tA_15, hw15⟩
  clear ht
  have hb15 := below_step hb14 hw15
  clear hb14 hw15
  have h := Try.check_any a15 2 c15 _ w15 tA_15
  rw [show lookE [(2, 0), (19, 0)] 1 = 7 from by decide] at h
  go_wp2_with fail
  refine h.mono ?_
  rintro e w16 ⟨rfl, hw16⟩
  clear h
  have hb16 := below_step hb15 hw16
  clear hb15 hw16
  go_wp2_with fail
  refine (o23 _).mono ?_
  rintro e w17 ⟨rfl, hw17⟩
  have hb17 := below_step hb16 hw17
  clear hb16 hw17
  have ht : Calls Try.prog 36 #[.slice (some ⟨w17.heap.size, 0, none⟩) 3 3] (w17.alloc (.cells #[.int .i64 0, .int .i64 119, .int .i64 123] 3)) (fun e w' => ∃ a cap, e = .returned (.slice a 3 cap) ∧ TkSl w' a 3 cap [(2, 0), (19, 0), (23, 0)] ∧ Below w17.heap.size w17 w') := Try.t_lit [0, 119, 123] [(2, 0), (19, 0), (23, 0)] w17 (by decide) (by decide) (by decide)
  go_wp2_with fail
  refine ht.mono ?_
  rintro e w18 ⟨a18, c18, rfl, tA_18, hw18⟩
  clear ht
  have hb18 := below_step hb17 hw18
  clear hb17 hw18
  have h := Try.path_any a18 3 c18 _ w18 tA_18
  rw [show lookE [(2, 0), (19, 0), (23, 0)] 3 = 0 from by decide] at h
  go_wp2_with fail
  refine h.mono ?_
  rintro e w19 ⟨rfl, hw19⟩
  clear h
  have hb19 := below_step hb18 hw19
  clear hb18 hw19
  go_wp2_with fail
  refine (o7 _).mono ?_
  rintro e w20 ⟨rfl, hw20⟩
  have hb20 := below_step hb19 hw20
  clear hb19 hw20
  have ht : Calls Try.prog 36 #[.slice (some ⟨w20.heap.size, 0, none⟩) 5 5] (w20.alloc (.cells #[.int .i64 0, .int .i64 107, .int .i64 119, .int .i64 1, .int .i64 117] 3)) (fun e w' => ∃ a cap, e = .returned (.slice a 5 cap) ∧ TkSl w' a 5 cap [(2, 0), (7, 0), (19, 0), (2, 1), (17, 0)] ∧ Below w20.heap.size w20 w') := Try.t_lit [0, 107, 119, 1, 117] [(2, 0), (7, 0), (19, 0), (2, 1), (17, 0)] w20 (by decide) (by decide) (by decide)
  go_wp2_with fail
  refine ht.mono ?_
  rintro e w21 ⟨a21, c21, rfl, tA_21, hw21⟩
  clear ht
  have hb21 := below_step hb20 hw21
  clear hb20 hw21
  have h := Try.check_any a21 5 c21 _ w21 tA_21
  rw [show lookE [(2, 0), (7, 0), (19, 0), (2, 1), (17, 0)] 1 = 7 from by decide] at h
  go_wp2_with fail
  refine h.mono ?_
  rintro e w22 ⟨rfl, hw22⟩
  clear h
  have hb22 := below_step hb21 hw22
  clear hb21 hw22
  have h : Calls Try.prog 18 #[.slice (some ⟨w22.heap.size, 0, none⟩) 1 1] (w22.alloc (.cells #[.int .u8 0, .int .u8 3] 50)) (fun e w' => e = .returned (.int .i64 7) ∧ Below w22.heap.size w22 w') := Try.chk_lit 0 3 7 w22 (by decide) (by decide) (by decide)
  go_wp2_with fail
  refine h.mono ?_
  rintro e w23 ⟨rfl, hw23⟩
  clear h
  have hb23 := below_step hb22 hw23
  clear hb22 hw23
  have h : Calls Try.prog 18 #[.slice (some ⟨w23.heap.size, 0, none⟩) 1 1] (w23.alloc (.cells #[.int .u8 24, .int .u8 0] 50)) (fun e w' => e = .returned (.int .i64 7) ∧ Below w23.heap.size w23 w') := Try.chk_lit 24 0 7 w23 (by decide) (by decide) (by decide)
  go_wp2_with fail
  refine h.mono ?_
  rintro e w24 ⟨rfl, hw24⟩
  clear h
  have hb24 := below_step hb23 hw24
  clear hb23 hw24
  have h : Calls Try.prog 18 #[.slice (some ⟨w24.heap.size, 0, none⟩) 1 1] (w24.alloc (.cells #[.int .u8 2, .int .u8 8] 50)) (fun e w' => e = .returned (.int .i64 7) ∧ Below w24.heap.size w24 w') := Try.chk_lit 2 8 7 w24 (by decide) (by decide) (by decide)
  go_wp2_with fail
  refine h.mono ?_
  rintro e w25 ⟨rfl, hw25⟩
  clear h
  have hb25 := below_step hb24 hw25
  clear hb24 hw25
  have ht : Calls Try.prog 36 #[.slice (some ⟨w25.heap.size, 0, none⟩) 4 4] (w25.alloc (.cells #[.int .i64 0, .int .i64 1, .int .i64 106, .int .i64 111] 3)) (fun e w' => ∃ a cap, e = .returned (.slice a 4 cap) ∧ TkSl w' a 4 cap [(2, 0), (2, 1), (6, 0), (11, 0)] ∧ Below w25.heap.size w25 w') := Try.t_lit [0, 1, 106, 111] [(2, 0), (2, 1), (6, 0), (11, 0)] w25 (by decide) (by decide) (by decide)
  go_wp2_with fail
  refine ht.mono ?_
  rintro e w26 ⟨a26, c26, rfl, tA_26, hw26⟩
  clear ht
  have hb26 := below_step hb25 hw26
  clear hb25 hw26
  have h := Try.depths_any a26 4 c26 _ w26 tA_26
  rw [show lookE [(2, 0), (2, 1), (6, 0), (11, 0)] 4 = 0 from by decide, show (allP [(2, 0), (2, 1), (6, 0), (11, 0)]).map (fun p => (p.dep : Int)) = [1, 1, 2, 3] from by decide] at h
  go_wp2_with fail
  refine h.mono ?_
  rintro e w27 ⟨⟨v, rfl, hv, _⟩, hw27⟩
  obtain ⟨a27, c27, rfl, dD_27, _, _⟩ := ownI_sl (hv rfl) Try.underlying25 Try.sizeInt
  clear h hv
  have hb27 := below_step hb26 hw27
  clear hb26 hw27
  go_wp2_with fail
  refine (o18 _).mono ?_
  rintro e w28 ⟨rfl, hw28⟩
  have hb28 := below_step hb27 hw28
  have dD_28 := dD_27.up hw28
  clear hb27 dD_27 hw28
  have ht : Calls Try.prog 36 #[.slice (some ⟨w28.heap.size, 0, none⟩) 4 4] (w28.alloc (.cells #[.int .i64 0, .int .i64 119, .int .i64 3, .int .i64 118] 3)) (fun e w' => ∃ a cap, e = .returned (.slice a 4 cap) ∧ TkSl w' a 4 cap [(2, 0), (19, 0), (2, 3), (18, 0)] ∧ Below w28.heap.size w28 w') := Try.t_lit [0, 119, 3, 118] [(2, 0), (19, 0), (2, 3), (18, 0)] w28 (by decide) (by decide) (by decide)
  go_wp2_with fail
  refine ht.mono ?_
  rintro e w29 ⟨a29, c29, rfl, tA_29, hw29⟩
  clear ht
  have hb29 := below_step hb28 hw29
  have dD_29 := dD_28.up hw29
  clear hb28 dD_28 hw29
  have h := Try.props_any a29 4 c29 _ w29 tA_29
  rw [show lookE [(2, 0), (19, 0), (2, 3), (18, 0)] 4 = 0 from by decide, show (if (0 : Nat) = 0 then propsI [(2, 0), (19, 0), (2, 3), (18, 0)] 0 else 0) = 9 from by decide +kernel] at h
  go_wp2_with fail
  refine h.mono ?_
  rintro e w30 ⟨rfl, hw30⟩
  clear h
  have hb30 := below_step hb29 hw30
  have dD_30 := dD_29.up hw30
  clear hb29 dD_29 hw30
  have ht : Calls Try.prog 36 #[.slice (some ⟨w30.heap.size, 0, none⟩) 1 1] (w30.alloc (.cells #[.int .i64 0] 3)) (fun e w' => ∃ a cap, e = .returned (.slice a 1 cap) ∧ TkSl w' a 1 cap [(2, 0)] ∧ Below w30.heap.size w30 w') := Try.t_lit [0] [(2, 0)] w30 (by decide) (by decide) (by decide)
  go_wp2_with fail
  refine ht.mono ?_
  rintro e w31 ⟨a31, c31, rfl, tA_31, hw31⟩
  clear ht
  have hb31 := below_step hb30 hw31
  have dD_31 := dD_30.up hw31
  clear hb30 dD_30 hw31
  have ht : Calls Try.prog 36 #[.slice (some ⟨w31.heap.size, 0, none⟩) 1 1] (w31.alloc (.cells #[.int .i64 1] 3)) (fun e w' => ∃ a cap, e = .returned (.slice a 1 cap) ∧ TkSl w' a 1 cap [(2, 1)] ∧ Below w31.heap.size w31 w') := Try.t_lit [1] [(2, 1)] w31 (by decide) (by decide) (by decide)
  go_wp2_with fail
  refine ht.mono ?_
  rintro e w32 ⟨a32, c32, rfl, tB_32, hw32⟩
  clear ht
  have hb32 := below_step hb31 hw32
  have dD_32 := dD_31.up hw32
  have tA_32 := tA_31.up hw32
  clear hb31 dD_31 tA_31 hw32
  have h := Try.bin_any 15 a31 a32 1 c31 1 c32 _ _ w32 tA_32 tB_32 (by decide)
  rw [show binE 15 [(2, 0)] [(2, 1)] = 0 from by decide] at h
  rw [show [(2, 0)] ++ [(2, 1)] ++ [(15, 0)] = [(2, 0), (2, 1), (15, 0)] from by decide] at h
  go_wp2_with fail
  refine h.mono ?_
  rintro e w33 ⟨⟨v, rfl, hv, hv1⟩, hw33⟩
  obtain ⟨a33, c33, rfl, kA_33, _⟩ := own_tk (hv rfl) (by decide)
  clear h hv hv1
  have hb33 := below_step hb32 hw33
  have dD_33 := dD_32.up hw33
  clear hb32 dD_32 hw33
  have ht : Calls Try.prog 36 #[.slice (some ⟨w33.heap.size, 0, none⟩) 1 1] (w33.alloc (.cells #[.int .i64 0] 3)) (fun e w' => ∃ a cap, e = .returned (.slice a 1 cap) ∧ TkSl w' a 1 cap [(2, 0)] ∧ Below w33.heap.size w33 w') := Try.t_lit [0] [(2, 0)] w33 (by decide) (by decide) (by decide)
  go_wp2_with fail
  refine ht.mono ?_
  rintro e w34 ⟨a34, c34, rfl, tA_34, hw34⟩
  clear ht
  have hb34 := below_step hb33 hw34
  have dD_34 := dD_33.up hw34
  have kA_34 := kA_33.up hw34
  clear hb33 dD_33 kA_33 hw34
  have ht : Calls Try.prog 36 #[.slice (some ⟨w34.heap.size, 0, none⟩) 1 1] (w34.alloc (.cells #[.int .i64 1] 3)) (fun e w' => ∃ a cap, e = .returned (.slice a 1 cap) ∧ TkSl w' a 1 cap [(2, 1)] ∧ Below w34.heap.size w34 w') := Try.t_lit [1] [(2, 1)] w34 (by decide) (by decide) (by decide)
  go_wp2_with fail
  refine ht.mono ?_
  rintro e w35 ⟨a35, c35, rfl, tB_35, hw35⟩
  clear ht
  have hb35 := below_step hb34 hw35
  have dD_35 := dD_34.up hw35
  have kA_35 := kA_34.up hw35
  have tA_35 := tA_34.up hw35
  clear hb34 dD_34 kA_34 tA_34 hw35
  have h := Try.bin_any 17 a34 a35 1 c34 1 c35 _ _ w35 tA_35 tB_35 (by decide)
  rw [show binE 17 [(2, 0)] [(2, 1)] = 7 from by decide] at h
  go_wp2_with fail
  refine h.mono ?_
  rintro e w36 ⟨⟨v, rfl, hv, hv1⟩, hw36⟩
  obtain rfl := hv1 (by decide)
  clear h hv hv1
  have hb36 := below_step hb35 hw36
  have dD_36 := dD_35.up hw36
  have kA_36 := kA_35.up hw36
  clear hb35 dD_35 kA_35 hw36
  have ht : Calls Try.prog 36 #[.slice (some ⟨w36.heap.size, 0, none⟩) 1 1] (w36.alloc (.cells #[.int .i64 0] 3)) (fun e w' => ∃ a cap, e = .returned (.slice a 1 cap) ∧ TkSl w' a 1 cap [(2, 0)] ∧ Below w36.heap.size w36 w') := Try.t_lit [0] [(2, 0)] w36 (by decide) (by decide) (by decide)
  go_wp2_with fail
  refine ht.mono ?_
  rintro e w37 ⟨a37, c37, rfl, tA_37, hw37⟩
  clear ht
  have hb37 := below_step hb36 hw37
  have dD_37 := dD_36.up hw37
  have kA_37 := kA_36.up hw37
  clear hb36 dD_36 kA_36 hw37
  have h := Try.un_any 11 a37 1 c37 _ w37 tA_37 (by decide)
  rw [show unE 11 [(2, 0)] = 2 from by decide] at h
  go_wp2_with fail
  refine h.mono ?_
  rintro e w38 ⟨⟨v, rfl, hv, hv1⟩, hw38⟩
  obtain rfl := hv1 (by decide)
  clear h hv hv1
  have hb38 := below_step hb37 hw38
  have dD_38 := dD_37.up hw38
  have kA_38 := kA_37.up hw38
  clear hb37 dD_37 kA_37 hw38
  have ht : Calls Try.prog 36 #[.slice (some ⟨w38.heap.size, 0, none⟩) 3 3] (w38.alloc (.cells #[.int .i64 0, .int .i64 1, .int .i64 111] 3)) (fun e w' => ∃ a cap, e = .returned (.slice a 3 cap) ∧ TkSl w' a 3 cap [(2, 0), (2, 1), (11, 0)] ∧ Below w38.heap.size w38 w') := Try.t_lit [0, 1, 111] [(2, 0), (2, 1), (11, 0)] w38 (by decide) (by decide) (by decide)
  go_wp2_with fail
  refine ht.mono ?_
  rintro e w39 ⟨a39, c39, rfl, tA_39, hw39⟩
  clear ht
  have hb39 := below_step hb38 hw39
  have dD_39 := dD_38.up hw39
  have kA_39 := kA_38.up hw39
  clear hb38 dD_38 kA_38 hw39
  have ht : Calls Try.prog 36 #[.slice (some ⟨w39.heap.size, 0, none⟩) 2 2] (w39.alloc (.cells #[.int .i64 0, .int .i64 106] 3)) (fun e w' => ∃ a cap, e = .returned (.slice a 2 cap) ∧ TkSl w' a 2 cap [(2, 0), (6, 0)] ∧ Below w39.heap.size w39 w') := Try.t_lit [0, 106] [(2, 0), (6, 0)] w39 (by decide) (by decide) (by decide)
  go_wp2_with fail
  refine ht.mono ?_
  rintro e w40 ⟨a40, c40, rfl, tB_40, hw40⟩
  clear ht
  have hb40 := below_step hb39 hw40
  have dD_40 := dD_39.up hw40
  have kA_40 := kA_39.up hw40
  have tA_40 := tA_39.up hw40
  clear hb39 dD_39 kA_39 tA_39 hw40
  have h := Try.put_any a39 a40 3 c39 2 c40 1 _ _ w40 tA_40 tB_40
  rw [show putE [(2, 0), (2, 1), (11, 0)] 1 [(2, 0), (6, 0)] = 0 from by decide] at h
  rw [show putTs [(2, 0), (2, 1), (11, 0)] 1 [(2, 0), (6, 0)] = [(2, 0), (2, 0), (6, 0), (11, 0)] from by decide] at h
  go_wp2_with fail
  refine h.mono ?_
  rintro e w41 ⟨⟨v, rfl, hv, hv1⟩, hw41⟩
  obtain ⟨a41, c41, rfl, kP_41, _⟩ := own_tk (hv rfl) (by decide)
  clear h hv hv1
  have hb41 := below_step hb40 hw41
  have dD_41 := dD_40.up hw41
  have kA_41 := kA_40.up hw41
  clear hb40 dD_40 kA_40 hw41
  have ht : Calls Try.prog 36 #[.slice (some ⟨w41.heap.size, 0, none⟩) 3 3] (w41.alloc (.cells #[.int .i64 0, .int .i64 1, .int .i64 111] 3)) (fun e w' => ∃ a cap, e = .returned (.slice a 3 cap) ∧ TkSl w' a 3 cap [(2, 0), (2, 1), (11, 0)] ∧ Below w41.heap.size w41 w') := Try.t_lit [0, 1, 111] [(2, 0), (2, 1), (11, 0)] w41 (by decide) (by decide) (by decide)
  go_wp2_with fail
  refine ht.mono ?_
  rintro e w42 ⟨a42, c42, rfl, tA_42, hw42⟩
  clear ht
  have hb42 := below_step hb41 hw42
  have dD_42 := dD_41.up hw42
  have kA_42 := kA_41.up hw42
  have kP_42 := kP_41.up hw42
  clear hb41 dD_41 kA_41 kP_41 hw42
  have ht : Calls Try.prog 36 #[.slice (some ⟨w42.heap.size, 0, none⟩) 1 1] (w42.alloc (.cells #[.int .i64 0] 3)) (fun e w' => ∃ a cap, e = .returned (.slice a 1 cap) ∧ TkSl w' a 1 cap [(2, 0)] ∧ Below w42.heap.size w42 w') := Try.t_lit [0] [(2, 0)] w42 (by decide) (by decide) (by decide)
  go_wp2_with fail
  refine ht.mono ?_
  rintro e w43 ⟨a43, c43, rfl, tB_43, hw43⟩
  clear ht
  have hb43 := below_step hb42 hw43
  have dD_43 := dD_42.up hw43
  have kA_43 := kA_42.up hw43
  have kP_43 := kP_42.up hw43
  have tA_43 := tA_42.up hw43
  clear hb42 dD_42 kA_42 kP_42 tA_42 hw43
  have h := Try.put_any a42 a43 3 c42 1 c43 3 _ _ w43 tA_43 tB_43
  rw [show putE [(2, 0), (2, 1), (11, 0)] 3 [(2, 0)] = 2 from by decide] at h
  go_wp2_with fail
  refine h.mono ?_
  rintro e w44 ⟨⟨v, rfl, hv, hv1⟩, hw44⟩
  obtain rfl := hv1 (by decide)
  clear h hv hv1
  have hb44 := below_step hb43 hw44
  have dD_44 := dD_43.up hw44
  have kA_44 := kA_43.up hw44
  have kP_44 := kP_43.up hw44
  clear hb43 dD_43 kA_43 kP_43 hw44
  have ht : Calls Try.prog 36 #[.slice (some ⟨w44.heap.size, 0, none⟩) 1 1] (w44.alloc (.cells #[.int .i64 0] 3)) (fun e w' => ∃ v, e = .returned v ∧ w'.ownsRow w44.heap.size 50 2 v 1 (encT (deepTs 0)) ∧ Below w44.heap.size w44 w') := Try.t_deep w44
  go_wp2_with fail
  refine ht.mono ?_
  rintro e wD ⟨v, rfl, hO, hwD⟩
  have HO : Hid (World.ownsRow wD w44.heap.size 50 2 v 1 (encT (deepTs 0))) := hO
  have hbD : Hid (Below w44.heap.size w44 wD) := hwD
  clear ht hO hwD
  go_wp2
  go_loopw [22, 23] (fun v j wr => ∃ k : Nat, k ≤ 63 ∧ j = .int .i64 k ∧ Hid (World.ownsRow wr w44.heap.size 50 2 v (k + 1) (encT (deepTs k))) ∧ Hid (Below w44.heap.size w44 wr)) (fun _ j _ => 63 - (intOf j).toNat)
  case atStart => exact ⟨0, Nat.zero_le _, rfl, HO, hbD⟩
  case round =>
    clear HO hbD
    obtain ⟨k, hk, rfl, HO, hbk⟩ := hrel
    by_cases hlt : k < 63
    · have hq : (k : Int) < 63 := by omega
      have hsz := hbk.out.size
      have hltr := World.ownsRow.lt HO.out
      have HB : Hid (Blk _ _ _ _ _) := Blk.new wr 50 6 0
      have HO1 : Hid (World.ownsRow _ _ _ _ _ _ _) := World.ownsRow.alloc (deep_len HO.out) (.cells #[.int .u8 ((6 : Nat) : Int), .int .u8 ((0 : Nat) : Int)] 50)
      have HTK : Hid (TkSl _ _ _ _ _) := blk_tk HB.out (by decide) (by decide)
      have hdl := deepTs_len k
      go_wp2_with (at_builtin; refine Try.append_tks rfl _ _ rfl w44.heap.size _ (deepTs k) [(6, 0)] _ 1 1 rfl rfl HO1.out HTK.out (by omega) (by simp) (by simp; omega) ?_)
      intro v3 w3 hown3 hgr3
      have HO3 : Hid (World.ownsRow w3 w44.heap.size 50 2 v3 (k + 1 + 1) (encT (deepTs (k + 1)))) := deep_step hown3
      have hb3 : Hid (Below w44.heap.size w44 w3) := (hbk.out.alloc hsz _).grown hgr3 (by simp; omega) (fun j e => (hltr j e).1)
      clear hown3 hgr3
      go_wp2
      go_roundw
      case rel => exact ⟨k + 1, by omega, by go_num, HO3, hb3⟩
      case measure => simp [intOf]; omega
    · obtain rfl : k = 63 := by omega
      have hwX := hbk.out
      obtain ⟨aZ, cZ, rfl, tZ_45, _⟩ := own_tk (deep_len HO.out) (deepTs_ok 63)
      rw [deepTs_len] at tZ_45
      dsimp only [Nat.reduceAdd] at tZ_45
      rw [deepTs_len]
      dsimp only [Nat.reduceAdd]
      clear HO hbk
      rename World => w45
      have hb45 := below_step hb44 hwX
      have dD_45 := dD_44.up hwX
      have kA_45 := kA_44.up hwX
      have kP_45 := kP_44.up hwX
      clear hb44 dD_44 kA_44 kP_44 hwX
      have h := Try.un_any 6 aZ 64 cZ _ w45 tZ_45 (by decide)
      rw [deep_un] at h
      go_wp2_with fail
      refine h.mono ?_
      rintro e w46 ⟨⟨v, rfl, hv, hv1⟩, hw46⟩
      obtain rfl := hv1 (by decide)
      clear h hv hv1
      have hb46 := below_step hb45 hw46
      have dD_46 := dD_45.up hw46
      have kA_46 := kA_45.up hw46
      have kP_46 := kP_45.up hw46
      have tZ_46 := tZ_45.up hw46
      clear hb45 dD_45 kA_45 kP_45 tZ_45 hw46
      go_wp2_with fail
      refine (o14 _).mono ?_
      rintro e w47 ⟨rfl, hw47⟩
      have hb47 := below_step hb46 hw47
      have dD_47 := dD_46.up hw47
      have kA_47 := kA_46.up hw47
      have kP_47 := kP_46.up hw47
      have tZ_47 := tZ_46.up hw47
      clear hb46 dD_46 kA_46 kP_46 tZ_46 hw47
      have ht : Calls Try.prog 36 #[.slice (some ⟨w47.heap.size, 0, none⟩) 4 4] (w47.alloc (.cells #[.int .i64 0, .int .i64 1, .int .i64 114, .int .i64 106] 3)) (fun e w' => ∃ a cap, e = .returned (.slice a 4 cap) ∧ TkSl w' a 4 cap [(2, 0), (2, 1), (14, 0), (6, 0)] ∧ Below w47.heap.size w47 w') := Try.t_lit [0, 1, 114, 106] [(2, 0), (2, 1), (14, 0), (6, 0)] w47 (by decide) (by decide) (by decide)
      go_wp2_with fail
      refine ht.mono ?_
      rintro e w48 ⟨a48, c48, rfl, tA_48, hw48⟩
      clear ht
      have hb48 := below_step hb47 hw48
      have dD_48 := dD_47.up hw48
      have kA_48 := kA_47.up hw48
      have kP_48 := kP_47.up hw48
      have tZ_48 := tZ_47.up hw48
      clear hb47 dD_47 kA_47 kP_47 tZ_47 hw48
      have h := Try.plain_any a48 4 c48 _ w48 tA_48
      rw [show lookE [(2, 0), (2, 1), (14, 0), (6, 0)] 1 = 0 from by decide, show (decide (0 = 0) && ((allP [(2, 0), (2, 1), (14, 0), (6, 0)]).getLast?.map (·.plain)).getD false) = true from by decide] at h
      go_wp2_with fail
      refine h.mono ?_
      rintro e w49 ⟨rfl, hw49⟩
      clear h
      have hb49 := below_step hb48 hw49
      have dD_49 := dD_48.up hw49
      have kA_49 := kA_48.up hw49
      have kP_49 := kP_48.up hw49
      have tZ_49 := tZ_48.up hw49
      clear hb48 dD_48 kA_48 kP_48 tZ_48 hw49
      go_wp2_with fail
      refine (o7 _).mono ?_
      rintro e w50 ⟨rfl, hw50⟩
      have hb50 := below_step hb49 hw50
      have dD_50 := dD_49.up hw50
      have kA_50 := kA_49.up hw50
      have kP_50 := kP_49.up hw50
      have tZ_50 := tZ_49.up hw50
      clear hb49 dD_49 kA_49 kP_49 tZ_49 hw50
      have ht : Calls Try.prog 36 #[.slice (some ⟨w50.heap.size, 0, none⟩) 2 2] (w50.alloc (.cells #[.int .i64 0, .int .i64 107] 3)) (fun e w' => ∃ a cap, e = .returned (.slice a 2 cap) ∧ TkSl w' a 2 cap [(2, 0), (7, 0)] ∧ Below w50.heap.size w50 w') := Try.t_lit [0, 107] [(2, 0), (7, 0)] w50 (by decide) (by decide) (by decide)
      go_wp2_with fail
      refine ht.mono ?_
      rintro e w51 ⟨a51, c51, rfl, tA_51, hw51⟩
      clear ht
      have hb51 := below_step hb50 hw51
      have dD_51 := dD_50.up hw51
      have kA_51 := kA_50.up hw51
      have kP_51 := kP_50.up hw51
      have tZ_51 := tZ_50.up hw51
      clear hb50 dD_50 kA_50 kP_50 tZ_50 hw51
      have h := Try.plain_any a51 2 c51 _ w51 tA_51
      rw [show lookE [(2, 0), (7, 0)] 1 = 0 from by decide, show (decide (0 = 0) && ((allP [(2, 0), (7, 0)]).getLast?.map (·.plain)).getD false) = false from by decide] at h
      go_wp2_with fail
      refine h.mono ?_
      rintro e w52 ⟨rfl, hw52⟩
      clear h
      have hb52 := below_step hb51 hw52
      have dD_52 := dD_51.up hw52
      have kA_52 := kA_51.up hw52
      have kP_52 := kP_51.up hw52
      have tZ_52 := tZ_51.up hw52
      clear hb51 dD_51 kA_51 kP_51 tZ_51 hw52
      have h := Try.awake_any w52
      go_wp2_with fail
      refine h.mono ?_
      rintro e w53 ⟨rfl, hw53⟩
      clear h
      have hb53 := below_step hb52 hw53
      have dD_53 := dD_52.up hw53
      have kA_53 := kA_52.up hw53
      have kP_53 := kP_52.up hw53
      have tZ_53 := tZ_52.up hw53
      clear hb52 dD_52 kA_52 kP_52 tZ_52 hw53
      have h : Calls Try.prog 22 #[.slice a27 4 c27, .slice (some ⟨w53.heap.size, 0, none⟩) 4 4] (w53.alloc (.cells #[.int .i64 1, .int .i64 1, .int .i64 2, .int .i64 3] 3)) (fun e w' => e = .returned (.bool true) ∧ Below w53.heap.size w53 w') := Try.sameI_lit [1, 1, 2, 3] a27 c27 w53 dD_53 (by decide)
      go_wp2_with fail
      refine h.mono ?_
      rintro e w54 ⟨rfl, hw54⟩
      clear h
      have hb54 := below_step hb53 hw54
      have kA_54 := kA_53.up hw54
      have kP_54 := kP_53.up hw54
      have tZ_54 := tZ_53.up hw54
      clear hb53 kA_53 kP_53 tZ_53 hw54
      have ht : Calls Try.prog 36 #[.slice (some ⟨w54.heap.size, 0, none⟩) 3 3] (w54.alloc (.cells #[.int .i64 0, .int .i64 1, .int .i64 115] 3)) (fun e w' => ∃ a cap, e = .returned (.slice a 3 cap) ∧ TkSl w' a 3 cap [(2, 0), (2, 1), (15, 0)] ∧ Below w54.heap.size w54 w') := Try.t_lit [0, 1, 115] [(2, 0), (2, 1), (15, 0)] w54 (by decide) (by decide) (by decide)
      go_wp2_with fail
      refine ht.mono ?_
      rintro e w55 ⟨a55, c55, rfl, tA_55, hw55⟩
      clear ht
      have hb55 := below_step hb54 hw55
      have kA_55 := kA_54.up hw55
      have kP_55 := kP_54.up hw55
      have tZ_55 := tZ_54.up hw55
      clear hb54 kA_54 kP_54 tZ_54 hw55
      have h := Try.sameT_any _ _ _ _ _ _ _ _ _ kA_55 tA_55
      rw [show decide ([(2, 0), (2, 1), (15, 0)] = ([(2, 0), (2, 1), (15, 0)] : List Tk)) = true from by decide] at h
      go_wp2_with fail
      refine h.mono ?_
      rintro e w56 ⟨rfl, hw56⟩
      clear h
      have hb56 := below_step hb55 hw56
      have kP_56 := kP_55.up hw56
      have tZ_56 := tZ_55.up hw56
      clear hb55 kP_55 tZ_55 hw56
      have ht : Calls Try.prog 36 #[.slice (some ⟨w56.heap.size, 0, none⟩) 4 4] (w56.alloc (.cells #[.int .i64 0, .int .i64 0, .int .i64 106, .int .i64 111] 3)) (fun e w' => ∃ a cap, e = .returned (.slice a 4 cap) ∧ TkSl w' a 4 cap [(2, 0), (2, 0), (6, 0), (11, 0)] ∧ Below w56.heap.size w56 w') := Try.t_lit [0, 0, 106, 111] [(2, 0), (2, 0), (6, 0), (11, 0)] w56 (by decide) (by decide) (by decide)
      go_wp2_with fail
      refine ht.mono ?_
      rintro e w57 ⟨a57, c57, rfl, tA_57, hw57⟩
      clear ht
      have hb57 := below_step hb56 hw57
      have kP_57 := kP_56.up hw57
      have tZ_57 := tZ_56.up hw57
      clear hb56 kP_56 tZ_56 hw57
      have h := Try.sameT_any _ _ _ _ _ _ _ _ _ kP_57 tA_57
      rw [show decide ([(2, 0), (2, 0), (6, 0), (11, 0)] = ([(2, 0), (2, 0), (6, 0), (11, 0)] : List Tk)) = true from by decide] at h
      go_wp2_with fail
      refine h.mono ?_
      rintro e w58 ⟨rfl, hw58⟩
      clear h
      have hb58 := below_step hb57 hw58
      have tZ_58 := tZ_57.up hw58
      clear hb57 tZ_57 hw58
      have h := Try.check_any aZ 64 cZ _ w58 tZ_58
      rw [deep_look] at h
      go_wp2_with fail
      refine h.mono ?_
      rintro e w59 ⟨rfl, hw59⟩
      clear h
      have hb59 := below_step hb58 hw59
      clear hb58 hw59
      have hmk := mk
      have h : Calls Try.prog 18 #[.slice (some ⟨w59.heap.size, 0, none⟩) 513 513] (w59.alloc (.cells AR 50)) (fun e w' => e = .returned (.int .i64 3) ∧ Below w59.heap.size w59 w') := hck w59
      go_wp2_with fail
      refine h.mono ?_
      rintro e w60 ⟨rfl, hw60⟩
      clear h
      have hb60 := below_step hb59 hw60
      clear hb59 hw60
      go_wp2
      go_ret
      exact ⟨rfl, hb60⟩
end Go.Proofs.Ytgnhccjcokhmhaa
