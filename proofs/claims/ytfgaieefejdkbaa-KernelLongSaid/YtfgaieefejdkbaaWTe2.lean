/- Package term's take: one token worked off. -/
import Derived.Test.YtfgaieefejdkbaaWTe1
import Derived.Deep.DeepCutAuto
namespace Go.Proofs.Ytfgaieefejdkbaa
open Go.RowKit Go.Maps

/-- A list of parts of the program as the walk reads it, from the block's first cell on. -/
structure KpSl (P : Program) (T : TypeId) (w : World) (a : Option Addr) (g len cap : Nat) (ks : List Kp) : Prop where
  hlen : ks.length = len
  hcap : len ≤ cap
  bd : cap ≤ maxLen
  sh : (a = none ∧ cap = 0) ∨ a = some ⟨g, 0, none⟩
  idx : ∀ (n k : Nat) (w : World), k < n → n ≤ len → (Instr.indexAt T (.slice a n cap) (.int .i64 k)).run P w = .ok (.pointer (some ⟨g, 3 * k, none⟩)) w
  c0 : ∀ k (h : k < ks.length), w.cell? ⟨g, 3 * k, none⟩ = some (.int .u8 (ks[k].k : Int))
  c1 : ∀ k (h : k < ks.length), w.cell? ⟨g, 3 * k + 1, none⟩ = some (.int .i64 (ks[k].b : Int))
  c2 : ∀ k (h : k < ks.length), w.cell? ⟨g, 3 * k + 2, none⟩ = some (.int .i64 (ks[k].d : Int))
  blk : 0 < len → g < w.heap.size
theorem KpSl.later {P : Program} {T : TypeId} {w w' : World} {a : Option Addr} {g len cap : Nat} {ks : List Kp} (h : KpSl P T w a g len cap ks) {B : Nat} (hb : Below B w w') (hB : 0 < len → g < B) : KpSl P T w' a g len cap ks :=
  ⟨h.hlen, h.hcap, h.bd, h.sh, h.idx, fun k hk => (hb.cell (hB (by have := h.hlen; omega))).trans (h.c0 k hk), fun k hk => (hb.cell (hB (by have := h.hlen; omega))).trans (h.c1 k hk), fun k hk => (hb.cell (hB (by have := h.hlen; omega))).trans (h.c2 k hk), fun hk => Nat.lt_of_lt_of_le (h.blk hk) hb.size⟩
theorem KpSl.up {P : Program} {T : TypeId} {w w' : World} {a : Option Addr} {g len cap : Nat} {ks : List Kp} (h : KpSl P T w a g len cap ks) (hb : Below w.heap.size w w') : KpSl P T w' a g len cap ks := h.later hb h.blk

theorem madeK_step (m : Kp) (xs : List Kp) (j : Nat) (h : j < xs.length) : madeK m (xs.drop j) = overK (madeK m (xs.drop (j + 1))) xs[j] := by
  rw [List.drop_eq_getElem_cons h]; rfl
theorem fitsK_len : ∀ (ws : List Nat) (xs : List Kp), fitsK ws xs = true → ws.length = xs.length
  | [], [], _ => rfl
  | [], _ :: _, h => by cases h
  | _ :: _, [], h => by cases h
  | w :: ws, x :: xs, h => by simp [fitsK] at h; simp [fitsK_len ws xs h.2]
theorem fitsK_step (ws : List Nat) (xs : List Kp) (j : Nat) (h : j < ws.length) (h' : j < xs.length) : fitsK (ws.drop j) (xs.drop j) = (isK xs[j].k ws[j] && fitsK (ws.drop (j + 1)) (xs.drop (j + 1))) := by
  rw [List.drop_eq_getElem_cons h, List.drop_eq_getElem_cons h']; rfl
theorem fitsK_off : ∀ (j : Nat) (ws : List Nat) (xs : List Kp), fitsK (ws.drop j) (xs.drop j) = false → ws.length = xs.length → fitsK ws xs = false
  | 0, ws, xs, h, _ => by simpa using h
  | j + 1, [], xs, h, hl => by
    have : xs = [] := List.eq_nil_of_length_eq_zero (by simpa using hl.symm)
    subst this; simp [fitsK] at h
  | j + 1, w :: ws, [], h, hl => by simp at hl
  | j + 1, w :: ws, x :: xs, h, hl => by
    simp only [List.drop_succ_cons] at h
    simp [fitsK, fitsK_off j ws xs h (by simpa using hl)]

/-- What take answers, of the parts that the token takes. -/
def TakeR (len n : Nat) (a : Option Addr) (cap : Nat) (r : Option Kp) (e : Ending) : Prop :=
  match r with
  | none => e = .returned (.tuple #[.agg #[.int .u8 0, .int .i64 0, .int .i64 0], .slice none 0 0, .bool false])
  | some m => e = .returned (.tuple #[.agg (kpCells m), .slice a (len - n) cap, .bool true])
def takeK (op p i : Nat) (st : List Kp) : Option Kp :=
  if mayB op p then (if st.length < (takesK op).length then none else if fitsK (takesK op) (st.drop (st.length - (takesK op).length)) then some (madeK ⟨putsK op, i, 1⟩ (st.drop (st.length - (takesK op).length))) else none) else none

theorem IntSl.other {P : Program} {T : TypeId} {q : IntKind} {w : World} {a : Option Addr} {len cap : Nat} {zs : List Int} (h : IntSl P T q w a len cap zs) {g : Nat} (hne : ∀ k, k < len → g < (adOf a k).block) (i : Nat) (v : Value) : IntSl P T q (w.setCell ⟨g, i, none⟩ v) a len cap zs :=
  ⟨h.hlen, h.hcap, h.bd, h.idx, fun k hk => by rw [← h.cell k hk]; exact World.cell?_setCell_other _ _ _ _ (by intro e; have := hne k hk; rw [← e] at this; exact absurd this (Nat.lt_irrefl _)), fun k hk => by have := h.blk k hk; simpa using this, h.nn⟩
set_option maxHeartbeats 4000000 in
theorem Try.take_any (op p i : Nat) (a : Option Addr) (g len cap : Nat) (st : List Kp) (w : World) (hS : KpSl Try.prog 68 w a g len cap st) (hd : ∀ x ∈ st, x.d ≤ 1000000) (hln : len ≤ 1000000) :
    Calls Try.prog 69 #[.slice a len cap, .agg #[.int .u8 (op : Int), .int .u8 (p : Int)], .int .i64 (i : Int)] w fun e w' => TakeR len (takesK op).length a cap (takeK op p i st) e ∧ Below w.heap.size w w' := by
  have hsh := fun w => Try.shape_any op w
  have hmb := fun w => Try.mayBe_any op p w
  have hlen := hS.hlen
  have HT : Hid (takeK op p i st = if mayB op p then (if st.length < (takesK op).length then none else if fitsK (takesK op) (st.drop (st.length - (takesK op).length)) then some (madeK ⟨putsK op, i, 1⟩ (st.drop (st.length - (takesK op).length))) else none) else none) := rfl
  have hn2 := takesK_le op
  generalize takeK op p i st = R at *
  generalize putsK op = q at *
  generalize takesK op = ws at *
  generalize mayB op p = mb at *
  have h0 := Blk.new w 37 op p
  have h0' := KpBlk.new (w.alloc (.cells #[.int .u8 (op : Int), .int .u8 (p : Int)] 37)) 104 ⟨0, 0, 0⟩
  have hb0 : Below w.heap.size w ((w.alloc (.cells #[.int .u8 (op : Int), .int .u8 (p : Int)] 37)).alloc (.cells (kpCells ⟨0, 0, 0⟩) 104)) := (below_new w _).alloc (by simp) _
  have h0 := h0.al (.cells (kpCells ⟨0, 0, 0⟩) 104)
  have hsz : ((w.alloc (.cells #[.int .u8 (op : Int), .int .u8 (p : Int)] 37)).alloc (.cells (kpCells ⟨0, 0, 0⟩) 104)).heap.size = w.heap.size + 1 + 1 := by simp
  have hs1 : (w.alloc (.cells #[.int .u8 (op : Int), .int .u8 (p : Int)] 37)).heap.size = w.heap.size + 1 := by simp
  rw [hs1] at h0'
  go_enter Try.func69, Try.ntmps69
  go_wp2_with fail
  refine (hsh _).mono ?_
  rintro e w1 ⟨b, rfl, hW, hw1, hbb⟩
  have h1 := h0.up hw1
  have h1' := KpBlk.up h0' hw1
  have hb1 := below_step hb0 hw1
  have hbb' : ∀ k, k < ws.length → w.heap.size + 1 + 1 ≤ (adOf b k).block := fun k hk => Nat.le_trans (Nat.le_of_eq hsz.symm) (hbb k hk)
  clear hbb hsh h0 h0' hb0 hsz hs1 hw1
  have hc0 := h1.c0
  have hc1 := h1.c1
  go_wp2_with fail
  refine (hmb _).mono ?_
  rintro e w2 ⟨rfl, hw2⟩
  have h2 := KpBlk.up h1' hw2
  have hW2 := hW.up hw2
  have hb2 := below_step hb1 hw2
  clear hw2 hmb h1 h1' hb1 hc0 hc1 hW
  have hC0 := h2.c0
  have hC1 := h2.c1
  have hC2 := h2.c2
  have hCf := h2.fz
  cases mb with
  | false =>
    have HR : Hid (R = none) := HT.out
    go_wp2
    refine bodyPost_ret (v := .tuple #[.agg #[.int .u8 0, .int .i64 0, .int .i64 0], .slice none 0 0, .bool false]) (by simp [results, Try.results69, go_sem, hC0, hC1, hC2]) rfl ⟨by rw [HR.out]; rfl, ?_⟩
    exact ((hb2.setCell (by dsimp only; omega) _).setCell (by dsimp only; omega) _).setCell (by dsimp only; omega) _
  | true =>
    have HT1 : Hid _ := HT.out.trans (if_pos rfl)
    clear HT
    by_cases hnl : st.length < ws.length
    · have HR : Hid (R = none) := HT1.out.trans (if_pos hnl)
      have hnl' : (len : Int) < (ws.length : Int) := by omega
      go_wp2
      refine bodyPost_ret (v := .tuple #[.agg #[.int .u8 0, .int .i64 0, .int .i64 0], .slice none 0 0, .bool false]) (by simp [results, Try.results69, go_sem, hC0, hC1, hC2]) rfl ⟨by rw [HR.out]; rfl, ?_⟩
      exact ((hb2.setCell (by dsimp only; omega) _).setCell (by dsimp only; omega) _).setCell (by dsimp only; omega) _
    · have HT2 : Hid _ := HT1.out.trans (if_neg hnl)
      clear HT1
      have hnl' : ¬ len < ws.length := by omega
      obtain ⟨lo, hlo⟩ : ∃ lo, lo = st.length - ws.length := ⟨_, rfl⟩
      have hlo2 : lo + ws.length = len := by omega
      rw [← hlo] at HT2
      have hal : (st.drop lo).length = ws.length := by simp; omega
      have hget : ∀ k, (h : k < (st.drop lo).length) → (st.drop lo)[k] = st[lo + k]'(by omega) := fun k h => by simp
      have had : ∀ x ∈ st.drop lo, x.d ≤ 1000000 := fun x hx => hd x (List.mem_of_mem_drop hx)
      have hcell : ∀ k, (h : k < (st.drop lo).length) → w.cell? ⟨g, 3 * (lo + k), none⟩ = some (.int .u8 (((st.drop lo)[k]).k : Int)) ∧ w.cell? ⟨g, 3 * (lo + k) + 1, none⟩ = some (.int .i64 (((st.drop lo)[k]).b : Int)) ∧ w.cell? ⟨g, 3 * (lo + k) + 2, none⟩ = some (.int .i64 (((st.drop lo)[k]).d : Int)) := fun k h => by
        rw [hget k h]; exact ⟨hS.c0 _ _, hS.c1 _ _, hS.c2 _ _⟩
      clear hget
      generalize st.drop lo = args at *
      clear hlo hnl
      have hwn : IntKind.i64.wrap ((ws.length : Int) - 1) = (ws.length : Int) - 1 := by rw [IntKind.wrap_i64]; omega
      have h2 : Hid (KpBlk _ _ _ _) := h2
      have hW2 : Hid (IntSl _ _ _ _ _ _ _ _) := hW2
      go_wp2
      go_loopw [0, 11] (fun s j wr => ∃ r : Nat, r ≤ ws.length ∧ j = .int .i64 ((r : Int) - 1) ∧ s = .slice a (lo + r) cap ∧ Hid (fitsK (ws.drop r) (args.drop r) = true) ∧ Hid (KpBlk wr (w.heap.size + 1) 104 (madeK ⟨q, i, 1⟩ (args.drop r))) ∧ Hid (IntSl Try.prog 126 .u8 wr b ws.length ws.length (ws.map Int.ofNat)) ∧ Hid (Below w.heap.size w wr)) (fun _ j _ => (intOf j + 1).toNat)
      case atStart =>
        refine ⟨ws.length, Nat.le_refl _, rfl, by rw [hlo2], ?_, ?_, ?_, ?_⟩
        · show _ = _
          rw [List.drop_of_length_le (Nat.le_refl _), List.drop_of_length_le (by omega)]; rfl
        · show KpBlk _ _ _ _
          rw [List.drop_of_length_le (by omega)]
          exact h2.out.store ⟨q, i, 1⟩
        · show IntSl _ _ _ _ _ _ _ _
          exact ((hW2.out.other (fun k hk => hbb' k hk) _ _).other (fun k hk => hbb' k hk) _ _).other (fun k hk => hbb' k hk) _ _
        · show Below _ _ _
          exact ((hb2.setCell (by dsimp only; omega) _).setCell (by dsimp only; omega) _).setCell (by dsimp only; omega) _
      case round =>
        obtain ⟨r, hr, rfl, rfl, HF, hBr, hWr, hbr⟩ := hrel
        by_cases hr0 : r = 0
        · subst hr0
          have HR : Hid (R = some (madeK ⟨q, i, 1⟩ args)) := HT2.out.trans (if_pos (by have := HF.out; simpa using this))
          have hD0 := hBr.out.c0
          have hD1 := hBr.out.c1
          have hD2 := hBr.out.c2
          have hDf := hBr.out.fz
          have e1 : ((0 : Nat) : Int) - 1 = -1 := rfl
          rw [e1]
          have hl0 : lo + 0 = len - ws.length := by omega
          rw [hl0]
          clear hl0 hlo2
          go_wp2
          refine bodyPost_ret (v := .tuple #[.agg (kpCells (madeK ⟨q, i, 1⟩ args)), .slice a (len - ws.length) cap, .bool true]) (by simp [results, Try.results69, go_sem, hD0, hD1, hD2, kpCells]) rfl ⟨by rw [HR.out]; rfl, ?_⟩
          exact ((hbr.out.setCell (by dsimp only; omega) _).setCell (by dsimp only; omega) _).setCell (by dsimp only; omega) _
        · obtain ⟨r', rfl⟩ : ∃ r', r = r' + 1 := ⟨r - 1, by omega⟩
          have e1 : ((r' + 1 : Nat) : Int) - 1 = (r' : Int) := by omega
          rw [e1]
          have hra : r' < args.length := by omega
          have hrw : r' < ws.length := by omega
          have HF1 : Hid _ := fitsK_step ws args r' hrw hra
          have HM1 : Hid _ := madeK_step ⟨q, i, 1⟩ args r' hra
          have hdr := had args[r'] (List.getElem_mem hra)
          have hgw : g < w.heap.size := hS.blk (by omega)
          obtain ⟨hc0, hc1, hc2⟩ := hcell r' hra
          rw [← hbr.out.cell hgw] at hc0 hc1 hc2
          have hidx := fun w => hS.idx (lo + (r' + 1)) (lo + r') w (by omega) (by omega)
          have hwi := fun w => hWr.out.idx ws.length r' w hrw (Nat.le_refl _)
          have hwc := hWr.out.cell r' hrw
          have hwe : (ws.map Int.ofNat).getD r' 0 = (ws[r'] : Int) := by simp [List.getD_eq_getElem?_getD, hrw]
          rw [hwe] at hwc
          have hlk : lo + (r' + 1) = lo + r' + 1 := rfl
          have hLm : lo + r' + 1 ≤ 1000000 := by omega
          rw [hlk] at hidx ⊢
          obtain ⟨K, hK⟩ : ∃ K, K = lo + r' := ⟨_, rfl⟩
          obtain ⟨L, hL⟩ : ∃ L, L = lo + r' + 1 := ⟨_, rfl⟩
          rw [← hL] at hidx hLm ⊢
          rw [← hK] at hidx hc0 hc1 hc2 hL
          have hw1 : IntKind.i64.wrap ((L : Int) - 1) = (K : Int) := by rw [IntKind.wrap_i64]; omega
          have hKL : K ≤ L := by omega
          have HKL : Hid (K = lo + r') := hK
          have hKc : K ≤ cap := by have := hS.hcap; omega
          clear hK hL hlk hLm
          have hw2 : IntKind.i64.wrap ((r' : Int) - 1) = (r' : Int) - 1 := by rw [IntKind.wrap_i64]; omega
          have hi := fun w => Try.is_any args[r'] ws[r'] w
          have ho := fun (m : Kp) w => Try.over_any m args[r'] w hdr
          generalize args[r'] = X at *
          generalize ws[r'] = W at *
          obtain ⟨x0, x1, x2⟩ := X
          dsimp only [kpCells] at *
          have hT := KpBlk.new wr 104 ⟨x0, x1, x2⟩
          have hBt : Hid (KpBlk _ _ _ _) := hBr.out.up (below_new wr (.cells (kpCells ⟨x0, x1, x2⟩) 104))
          have hWt : Hid (IntSl _ _ _ _ _ _ _ _) := hWr.out.up (below_new wr (.cells (kpCells ⟨x0, x1, x2⟩) 104))
          have hbt : Hid (Below _ _ _) := below_step hbr.out (below_new wr (.cells (kpCells ⟨x0, x1, x2⟩) 104))
          have hwt := hWt.out.cell r' hrw
          have hwe' : (ws.map Int.ofNat).getD r' 0 = (W : Int) := hwe
          rw [hwe'] at hwt
          go_upto_region 9 with fail
          dsimp only [kpCells] at hT hBt hWt hbt hwt
          generalize hG : wr.alloc _ = wt at *
          have ht0 := hT.c0
          have ht1 := hT.c1
          have ht2 := hT.c2
          go_region_held3 (fun w' => w'.cell? ⟨wr.heap.size, 0, none⟩ = some (.int .u8 (x0 : Int)) ∧ w'.cell? ⟨wr.heap.size, 1, none⟩ = some (.int .i64 (x1 : Int)) ∧ w'.cell? ⟨wr.heap.size, 2, none⟩ = some (.int .i64 (x2 : Int)) ∧ w'.cell? (adOf b r') = some (.int .u8 (W : Int))) (first | (simp [go_sem, ht0, ht1, ht2, hwt]; done) | exact ⟨kept_cell ht0 (below_step (Below.refl _ wt).drew hw3), kept_cell ht1 (below_step (Below.refl _ wt).drew hw3), kept_cell ht2 (below_step (Below.refl _ wt).drew hw3), kept_cell hwt (below_step (Below.refl _ wt).drew hw3)⟩) (first | (go_at_call 70; refine (hi _).mono ?_; rintro e w3 ⟨rfl, hw3⟩))
          have hw3' : Below wt.heap.size wt w3 := below_step (Below.refl _ wt).drew hw3
          clear hw3
          have hT3 := hT.up hw3'
          have hB3 : Hid (KpBlk _ _ _ _) := hBt.out.up hw3'
          have hW3 : Hid (IntSl _ _ _ _ _ _ _ _) := hWt.out.up hw3'
          have hb3 : Hid (Below _ _ _) := below_step hbt.out hw3'
          have hne : wr.heap.size ≠ w.heap.size + 1 := by
            have h1 := hBr.out.lt; omega
          have HF0 : Hid _ := HF1.out
          have HM0 : Hid _ := HM1.out
          clear ht0 ht1 ht2 hwt hi hidx hwi hwc hc0 hc1 hc2 hC0 hC1 hC2 hCf hT hBt hWt hbt hG hw3' hwe hwe' HF1 HM1 h0
          have ht0 := hT3.c0
          have ht1 := hT3.c1
          have ht2 := hT3.c2
          have hm0 := hB3.out.c0
          have hm1 := hB3.out.c1
          have hm2 := hB3.out.c2
          have hmf := hB3.out.fz
          generalize madeK ⟨q, i, 1⟩ (args.drop (r' + 1)) = M at *
          obtain ⟨m0, m1, m2⟩ := M
          generalize hz : isK x0 W = z at *
          dsimp only at *
          cases z with
          | false =>
            have HR : Hid (R = none) := HT2.out.trans (if_neg (by
              have h1 : fitsK (ws.drop r') (args.drop r') = false := by rw [HF0.out]; rfl
              rw [fitsK_off r' ws args h1 (by omega)]; simp))
            go_wp2
            refine bodyPost_ret (v := .tuple #[.agg #[.int .u8 0, .int .i64 0, .int .i64 0], .slice none 0 0, .bool false]) (by simp [results, Try.results69, go_sem, hm0, hm1, hm2]) rfl ⟨by rw [HR.out]; rfl, ?_⟩
            exact ((hb3.out.setCell (by dsimp only; omega) _).setCell (by dsimp only; omega) _).setCell (by dsimp only; omega) _
          | true =>
            obtain rfl : a = some ⟨g, 0, none⟩ := by
              rcases hS.sh with h | h
              · have := hS.hcap; omega
              · exact h
            go_wp2_with fail
            refine (ho ⟨m0, m1, m2⟩ _).mono ?_
            rintro e w4 ⟨rfl, hw4⟩
            have hB4 : Hid (KpBlk _ _ _ _) := hB3.out.up hw4
            have hW4 : Hid (IntSl _ _ _ _ _ _ _ _) := hW3.out.up hw4
            have hb4 : Hid (Below _ _ _) := below_step hb3.out hw4
            clear hw4 hm0 hm1 hm2 hmf ht0 ht1 ht2 hT3 hB3 hW3 hb3
            have hm0 := hB4.out.c0
            have hm1 := hB4.out.c1
            have hm2 := hB4.out.c2
            have hmf := hB4.out.fz
            have HO : Hid (KpBlk _ _ _ _) := hB4.out.store (overK ⟨m0, m1, m2⟩ ⟨x0, x1, x2⟩)
            have HFr : Hid (fitsK (ws.drop r') (args.drop r') = true) := by show _ = _; rw [HF0.out, HF.out]; rfl
            generalize overK ⟨m0, m1, m2⟩ ⟨x0, x1, x2⟩ = O at *
            obtain ⟨o0, o1, o2⟩ := O
            dsimp only [kpCells] at *
            go_wp2
            go_roundw
            case rel =>
              refine ⟨r', by omega, rfl, by rw [HKL.out], HFr, ?_, ?_, ?_⟩
              · show KpBlk _ _ _ _
                rw [HM0.out]; exact HO.out
              · show IntSl _ _ _ _ _ _ _ _
                exact ((hW4.out.other (fun k hk => hbb' k hk) _ _).other (fun k hk => hbb' k hk) _ _).other (fun k hk => hbb' k hk) _ _
              · show Below _ _ _
                exact ((hb4.out.setCell (by dsimp only; omega) _).setCell (by dsimp only; omega) _).setCell (by dsimp only; omega) _
            case measure => simp [intOf]
end Go.Proofs.Ytfgaieefejdkbaa
