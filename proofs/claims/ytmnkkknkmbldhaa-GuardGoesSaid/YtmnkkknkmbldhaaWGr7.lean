/- The document's store: Add. -/
import Derived.Test.YtmnkkknkmbldhaaWGr6
namespace Go.Proofs.Ytmnkkknkmbldhaa
open Go.RowKit Go.Maps

theorem ownsRow_emptyN (w : World) : (w.alloc (.cells #[] 44)).ownsRow w.heap.size 44 3 (.slice (some ⟨w.heap.size, 0, none⟩) 0 0) 0 (encG []) :=
  ⟨rfl, Or.inr ⟨w.heap.size, 0, #[], rfl, Nat.le_refl _, (MapKept.heap_alloc w _).1, Nat.le_refl _, by unfold maxLen; omega, by simp, by simp [encG]⟩⟩
/-- The store with its nodes copied. -/
theorem rst_copy {w w' : World} {g n cap c3 : Nat} {a a3 : Option Addr} {N : List Gd} (hok : ∀ t ∈ N, GdOk t)
    (hb : w.heap[g]? = some (.cells #[.int .i64 (n : Int), .slice a N.length cap] 40 (0, 0)))
    (hg : (w.alloc (.cells #[] 44)).grownBy w' (some w.heap.size)) (ho : w'.ownsRow w.heap.size 44 3 (.slice a3 N.length c3) N.length (encG N)) :
    w'.heap[g]? = some (.cells #[.int .i64 (n : Int), .slice a N.length cap] 40 (0, 0)) ∧
      RSt (w'.setCell ⟨g, 1, none⟩ (.slice a3 N.length c3)) (fun k => k = g ∨ (Value.slice a3 N.length c3).ownBlock = some k) g n N ∧
      Fr w (w'.setCell ⟨g, 1, none⟩ (.slice a3 N.length c3)) (fun k => k = g) (fun k => k = g ∨ (Value.slice a3 N.length c3).ownBlock = some k) := by
  have hb1 := below_new w (.cells #[] 44)
  have hgl := (Array.getElem?_eq_some_iff.1 hb).1
  have hz : (w.alloc (.cells #[] 44)).heap.size = w.heap.size + 1 := by simp
  have st : ∀ k, k < w.heap.size → w'.heap[k]? = w.heap[k]? := fun k hk => (hg.block k (by omega) (fun e => by injection e with e; omega)).trans (hb1.block k hk)
  have h5 := (st g hgl).trans hb
  have hs := hg.size
  have hset : (w'.setCell ⟨g, 1, none⟩ (.slice a3 N.length c3)).heap[g]? = some (.cells #[.int .i64 (n : Int), .slice a3 N.length c3] 40 (0, 0)) := by
    rw [heap_setCell_same w' g 1 _ _ _ h5]; rfl
  refine ⟨h5, ⟨⟨_, hset, owns_set (owns_base ho (by omega)) (by dsimp only; omega) _, fun k => Iff.rfl⟩, hok⟩, ⟨hg.os, hg.tape, hg.output, by simp; omega, fun k hk hf => (Below.heap_setCell _ _ _ _ (by dsimp only; exact hf)).trans (st k hk), fun k hk => ?_⟩⟩
  rcases hk with rfl | hk
  · exact .inl rfl
  · exact .inr (ho.lt k hk).1
/-- The store as it was. -/
theorem rst_back {w w3 w4 : World} {F F4 : Nat → Prop} {g n cap c3 : Nat} {a a3 : Option Addr} {N N4 : List Gd} (hok : ∀ t ∈ N, GdOk t)
    (hown : w.ownsRow (g + 1) 44 3 (.slice a N.length cap) N.length (encG N)) (hF : ∀ k, F k ↔ (k = g ∨ (Value.slice a N.length cap).ownBlock = some k))
    (h3 : Fr w w3 (fun k => k = g) (fun k => k = g ∨ (Value.slice a3 N.length c3).ownBlock = some k)) (hl : ∀ k, (Value.slice a3 N.length c3).ownBlock = some k → w.heap.size ≤ k) (h4 : Fr w3 w4 (fun k => k = g ∨ (Value.slice a3 N.length c3).ownBlock = some k) F4) (h5 : RSt w4 F4 g n N4) :
    RSt (w4.setCell ⟨g, 1, none⟩ (.slice a N.length cap)) F g n N ∧ Fr w (w4.setCell ⟨g, 1, none⟩ (.slice a N.length cap)) F F := by
  obtain ⟨v4, e4, _, _⟩ := h5.blk
  have hlt := hown.lt
  have hset : (w4.setCell ⟨g, 1, none⟩ (.slice a N.length cap)).heap[g]? = some (.cells #[.int .i64 (n : Int), .slice a N.length cap] 40 (0, 0)) := by
    rw [heap_setCell_same w4 g 1 _ _ _ e4]; rfl
  have o3 := h3.own hown (fun k hk e => by have := (hlt k hk).1; omega)
  have o4 := h4.own o3 (fun k hk e => by
    have := hlt k hk
    rcases e with e | e
    · omega
    · have := hl k e; omega)
  refine ⟨⟨⟨_, hset, owns_set o4 (by dsimp only; omega) _, hF⟩, hok⟩, ⟨h4.os.trans h3.os, h4.tape.trans h3.tape, h4.output.trans h3.output, ?_, fun k hk hf => ?_, fun k hk => .inl hk⟩⟩
  · have := h3.size; have := h4.size; simp; omega
  · have hkg : k ≠ g := fun e => hf ((hF k).2 (.inl e))
    refine (Below.heap_setCell _ _ _ _ (by dsimp only; exact hkg)).trans ((h4.keep k (Nat.lt_of_lt_of_le hk h3.size) (fun e => ?_)).trans (h3.keep k hk hkg))
    rcases e with e | e
    · exact hkg e
    · have := hl k e; omega
/-- What Add answers. -/
def RAR (g n : Nat) (r : (Int × Int) × List Gd) (F : Nat → Prop) (w : World) (e : Ending) (w' : World) : Prop := e = .returned (.tuple #[.int .i64 r.1.1, .int .i64 r.1.2]) ∧ ∃ F', RSt w' F' g n r.2 ∧ Fr w w' F F'
theorem addG_arg {n : Nat} {N : List Gd} {l : List Int} (h : l.length ≠ 2 ^ n ∨ ¬ ∀ v ∈ l, 0 ≤ v ∧ v ≤ 1048575) : addG n N l = ((0, 2), N) := by unfold addG; rw [if_pos h]
theorem addG_ok {n : Nat} {N : List Gd} {l : List Int} (h1 : l.length = 2 ^ n) (h2 : ∀ v ∈ l, 0 ≤ v ∧ v ≤ 1048575) {r : Int} {N' : List Gd} (e : adM n 0 (fnL (l.map Int.toNat)) N = (r, N')) : addG n N l = if 4096 < N'.length then ((0, 11), N) else ((r, 0), N') := by
  unfold addG
  rw [if_neg (by rintro (h | h); exact h h1; exact h h2), e]
theorem toNat_back {l : List Int} (h : ∀ v ∈ l, 0 ≤ v ∧ v ≤ 1048575) : (l.map Int.toNat).map Int.ofNat = l := by
  rw [List.map_map]
  refine (List.map_congr_left (g := id) fun v hv => ?_).trans (List.map_id l)
  have := (h v hv).1
  simp; omega
set_option maxRecDepth 100000 in
set_option maxHeartbeats 8000000 in
theorem Try.rAdd_any (g n : Nat) (hn : n ≤ 8) (zs : List Int) (a : Option Addr) (len c : Nat) (N : List Gd) (F : Nat → Prop) (w : World) (hS : ZSl w a len c zs) (hF : ∀ j, j < len → ¬ F (adOf a j).block) (hR : RSt w F g n N) (hN : N.length ≤ 4096) (hlen : len ≤ 1000000) :
    Calls Try.prog 12 #[.pointer (some ⟨g, 0, none⟩), .slice a len c] w (RAR g n (addG n N zs) F w) := by
  obtain ⟨Q, eQ⟩ : ∃ Q, Q = RAR g n (addG n N zs) F w := ⟨_, rfl⟩
  have HQ : Hid (∀ e w', RAR g n (addG n N zs) F w e w' → Q e w') := fun e w' h => by rw [eQ]; exact h
  rw [← eQ]
  clear eQ
  have HL : Hid (zs.length = len) := hS.hlen
  obtain ⟨v0, hb0, ho0, hf0⟩ := hR.blk
  obtain ⟨a0, c0, rfl, hN0, _⟩ := own_nd ho0 hR.ok
  have t0 := cell_row hb0 0
  have t1 := cell_row hb0 1
  simp only [List.getElem?_toArray, List.getElem?_cons_zero, List.getElem?_cons_succ] at t0 t1
  have hmin : min n 64 = n := by omega
  have hsh := shl_one n hn
  have hM : 2 ^ n ≤ 256 := Nat.pow_le_pow_right (by decide) hn
  have HArg : Hid ((zs.length ≠ 2 ^ n ∨ ¬ ∀ v ∈ zs, 0 ≤ v ∧ v ≤ 1048575) → Q (.returned (.tuple #[.int .i64 0, .int .i64 2])) w) := fun h => HQ.out _ _ (by rw [addG_arg h]; exact ⟨rfl, F, hR, Fr.ofBelow (Below.refl _ _)⟩)
  by_cases hl : len = 2 ^ n
  · have HMM : Hid (len = 2 ^ n) := hl
    rw [← hl] at hsh hM
    clear hl
    have dl : ((len : Int) != (len : Int)) = false := by simp
    have HS : Hid _ := hS
    have HF : Hid _ := hF
    have HR : Hid _ := hR
    have Hb0 : Hid _ := hb0
    have Ho0 : Hid _ := ho0
    have Hf0 : Hid _ := hf0
    have HN0 : Hid _ := hN0
    clear hS hF hR hb0 ho0 hf0 hN0
    generalize hLL : N.length = L at *
    have HLL : Hid _ := hLL
    clear hLL
    go_enter Try.func12, Try.ntmps12
    go_wp2
    go_loopw [6] (fun i wr => ∃ x : Nat, wr = w ∧ x ≤ len ∧ i = .int .i64 x ∧ Hid (∀ y, y < x → 0 ≤ zs.getD y 0 ∧ zs.getD y 0 ≤ 1048575)) (fun i _ => len - (intOf i).toNat)
    case atStart => exact ⟨0, rfl, Nat.zero_le _, rfl, fun y hy => absurd hy (by omega)⟩
    case round =>
      obtain ⟨x, rfl, hx, rfl, HX⟩ := hrel
      by_cases hxl : x < len
      · have hidx := fun w' => HS.out.idx len x w' hxl (Nat.le_refl _)
        have hce := HS.out.cell x hxl
        have HXN : Hid (0 ≤ zs.getD x 0 ∧ zs.getD x 0 ≤ 1048575 → ∀ y, y < x + 1 → 0 ≤ zs.getD y 0 ∧ zs.getD y 0 ≤ 1048575) := fun h y hy => by
          by_cases e : y = x
          · rw [e]; exact h
          · exact HX.out y (by omega)
        have HXY : Hid (¬ (0 ≤ zs.getD x 0 ∧ zs.getD x 0 ≤ 1048575) → Q (.returned (.tuple #[.int .i64 0, .int .i64 2])) wr) := fun h => HArg.out (.inr fun hall => h (hall _ (by
          have hl : x < zs.length := by rw [HL.out]; exact hxl
          simp [List.getD_eq_getElem?_getD, List.getElem?_eq_getElem hl])))
        generalize zs.getD x 0 = z at *
        generalize adOf a x = ad at *
        obtain ⟨ga, oa, sa⟩ := ad
        clear HArg HX HQ
        by_cases hz : 0 ≤ z ∧ z ≤ 1048575
        · have d1 : decide (z < 0) = false := by simp; omega
          have d2 : decide (1048575 < z) = false := by simp; omega
          have HX2 : Hid _ := HXN.out hz
          clear HXN HXY hz
          go_wp2
          go_roundw
          case rel => exact ⟨x + 1, trivial, by omega, by go_num, HX2⟩
          case measure => simp [intOf]; omega
        · have HE : Hid _ := HXY.out hz
          clear HXN HXY
          by_cases hz0 : z < 0
          · clear hz
            go_wp2
            exact HE.out
          · have hz1 : 1048575 < z := by omega
            clear hz
            go_wp2
            exact HE.out
      · have hxe : x = len := by omega
        have HV : Hid (∀ v ∈ zs, 0 ≤ v ∧ v ≤ 1048575) := fun v hv => by
          obtain ⟨i, hi, e⟩ := List.getElem_of_mem hv
          have := HX.out i (by rw [HL.out] at hi; omega)
          simpa [List.getD_eq_getElem?_getD, List.getElem?_eq_getElem hi, e] using this
        rcases e1 : adM n 0 (fnL (zs.map Int.toNat)) N with ⟨r, N'⟩
        have HQ2 : Hid (∀ e w', RAR g n (if 4096 < N'.length then ((0, 11), N) else ((r, 0), N')) F wr e w' → Q e w') := fun e w' q => HQ.out e w' (by rw [addG_ok (by rw [HL.out]; exact HMM.out) HV.out e1]; exact q)
        have HjA : Hid (∀ w3 F3, RSt w3 F3 g n N → Fr wr w3 (fun k => k = g) F3 → Calls Try.prog 32 #[.pointer (some ⟨g, 0, none⟩), .slice a len c, .int .i64 0] w3 (RaR g n (r, N') F3 w3)) := fun w3 F3 q1 q2 => by
          have hnf : ∀ y, y < len → ¬ (adOf a y).block = g := fun y hy e => HF.out y hy ((Hf0.out _).2 (.inl e))
          have := Try.radd_any g n n len 0 (zs.map Int.toNat) a c N F3 w3 HMM.out (by omega) (by omega) (by rw [List.length_map]; exact HL.out) (fun v hv => by
            obtain ⟨u, hu, rfl⟩ := List.mem_map.1 hv
            have := HV.out u hu; omega) (by rw [toNat_back HV.out]; exact q2.intSl HS.out hnf) (fun y hy => q2.out (hnf y hy) (HS.out.blk y hy)) q1 (by have := HLL.out; omega)
          rw [e1] at this
          exact this
        have hE := ownsRow_emptyN wr
        have hb1 := below_new wr (.cells #[] 44)
        have hT1 := HN0.out.up hb1
        have hsz : wr.heap.size ≤ (wr.alloc (.cells #[] 44)).heap.size := hb1.size
        have t1b := kept_cell t1 hb1
        have HNl : Hid (N.length ≤ 1000000) := by show _ ≤ _; have := HLL.out; omega
        subst hxe
        clear HX HArg HQ e1 HV hb1
        go_wp2_with (at_builtin; refine Try.append_nds rfl _ _ rfl wr.heap.size _ [] N a0 L c0 rfl rfl hE hT1 (Nat.zero_le _) HNl.out hsz ?_)
        intro v3 w3 hown3 hgr3
        have hown3 : w3.ownsRow wr.heap.size 44 3 v3 N.length (encG N) := by simpa [HLL.out] using hown3
        obtain ⟨a3, c3, rfl⟩ := own_slZ hown3
        obtain ⟨r1, r2, r3⟩ := rst_copy (a := a0) (cap := c0) HR.out.ok (by rw [HLL.out]; exact Hb0.out) hgr3 hown3
        have hl3 := fun k e => (hown3.lt k e).1
        have Hl3 : Hid _ := hl3
        rw [HLL.out] at r1 r2 r3 Hl3
        have c5 : w3.cell? ⟨g, 1, none⟩ = some (.slice a0 L c0) := cell_row r1 1
        have z5 : w3.frozen? ⟨g, 1, none⟩ = false := frozen_of_row w3 _ 1 _ _ r1
        have jA := HjA.out _ _ r2 r3
        have Hr3 : Hid _ := r3
        rw [HLL.out]
        clear r1 r2 r3 hown3 hgr3 hE hT1 hl3 HjA
        have HB : Hid (∀ w4 F4, RSt w4 F4 g n N' → Fr (w3.setCell ⟨g, 1, none⟩ (.slice a3 L c3)) w4 (fun k => k = g ∨ (Value.slice a3 L c3).ownBlock = some k) F4 → (4096 < N'.length → Q (.returned (.tuple #[.int .i64 0, .int .i64 11])) (w4.setCell ⟨g, 1, none⟩ (.slice a0 L c0))) ∧ (¬ 4096 < N'.length → Q (.returned (.tuple #[.int .i64 r, .int .i64 0])) w4)) := fun w4 F4 q1 q2 => by
          have hLe := HLL.out
          subst hLe
          refine ⟨fun h => HQ2.out _ _ ?_, fun h => HQ2.out _ _ ?_⟩
          · rw [if_pos h]
            obtain ⟨s1, s2⟩ := rst_back HR.out.ok Ho0.out Hf0.out Hr3.out Hl3.out q2 q1
            exact ⟨rfl, F, s1, s2⟩
          · rw [if_neg h]
            refine ⟨rfl, F4, q1, ?_⟩
            have h3 : Fr wr (w3.setCell ⟨g, 1, none⟩ (.slice a3 N.length c3)) F (fun k => k = g ∨ (Value.slice a3 N.length c3).ownBlock = some k) := by
              refine ⟨Hr3.out.os, Hr3.out.tape, Hr3.out.output, Hr3.out.size, fun k hk hf => Hr3.out.keep k hk (fun e => hf ((Hf0.out k).2 (.inl e))), fun k hk => ?_⟩
              rcases Hr3.out.foot k hk with e | e
              · exact .inl ((Hf0.out k).2 (.inl e))
              · exact .inr e
            exact h3.trans q2
        clear HQ2 Hr3 Hl3 HR Ho0 Hf0 HN0 HS HF HNl t1b t0 t1 Hb0
        go_wp2_with fail
        refine jA.mono ?_
        rintro e w4 ⟨rfl, F4, hR4, hF4⟩
        obtain ⟨q1, q2⟩ := HB.out w4 F4 hR4 hF4
        have HB1 : Hid _ := q1
        have HB2 : Hid _ := q2
        clear q1 q2
        obtain ⟨v4, b4, o4, _⟩ := hR4.blk
        obtain ⟨a4, c4, rfl⟩ := own_slZ o4
        dsimp only at b4 o4
        have t4 : w4.cell? ⟨g, 1, none⟩ = some (.slice a4 N'.length c4) := cell_row b4 1
        have z4 : w4.frozen? ⟨g, 1, none⟩ = false := frozen_of_row w4 _ 1 _ _ b4
        clear jA HB c5 z5 hR4 hF4 b4 o4
        generalize N'.length = L4 at *
        dsimp only
        by_cases hL4 : 4096 < L4
        · have HE : Hid _ := HB1.out hL4
          clear HB1 HB2
          go_wp2
          exact HE.out
        · have HE : Hid _ := HB2.out hL4
          clear HB1 HB2
          go_wp2
          exact HE.out
  · have HE : Hid _ := HArg.out (.inl (by rw [HL.out]; exact hl))
    obtain ⟨m, hm⟩ : ∃ m, m = 2 ^ n := ⟨_, rfl⟩
    rw [← hm] at hl hsh hM
    have dl : ((len : Int) != (m : Int)) = true := by simp; omega
    clear HArg HQ hl hm
    go_enter Try.func12, Try.ntmps12
    go_wp2
    exact HE.out
end Go.Proofs.Ytmnkkknkmbldhaa
