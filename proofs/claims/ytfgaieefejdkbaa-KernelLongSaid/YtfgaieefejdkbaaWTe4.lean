/- Package term's read and look, Check and Path. -/
import Derived.Test.YtfgaieefejdkbaaWTe3
namespace Go.Proofs.Ytfgaieefejdkbaa
open Go.RowKit Go.Maps

/-- What read answers. -/
def ReadK (T : TypeId) (want : Nat) (r : Option (List Pt × List Pt)) (w : World) (e : Ending) (w' : World) : Prop :=
  match r with
  | none => e = .returned (.tuple #[.slice none 0 0, .bool false])
  | some x => ∃ v, e = .returned (.tuple #[v, .bool (oneK x.2 want)]) ∧ w'.ownsRow w.heap.size T 3 v x.1.length (encK (x.1.map kp))

theorem read_round {op pp k : Nat} {st all : List Pt} {r : List Tk} {R : Option (List Pt × List Pt)} (HX : R = Option.map (fun x => (all ++ x.1, x.2)) (readP ((op, pp) :: r) k st)) (hs : ∀ x ∈ st, Sane x) (hd : ∀ x ∈ st, x.dep ≤ k) :
    (takeK op pp k (st.map kp) = none ∧ R = none) ∨ ∃ p, takeK op pp k (st.map kp) = some (kp p) ∧ (takesK op).length ≤ st.length ∧ R = (readP r (k + 1) (st.take (st.length - (takesK op).length) ++ [p])).map (fun x => (all ++ [p] ++ x.1, x.2)) ∧ Sane p ∧ p.dep ≤ k + 1 := by
  rw [readP_step] at HX
  rw [takeK_spec op pp k st hs]
  cases ht : takesN (op, pp) with
  | none => rw [ht] at HX; exact Or.inl ⟨rfl, HX⟩
  | some n =>
    have hn : n = (takesK op).length := by
      have h2 := ht
      rw [takesN_mayB] at h2
      split at h2
      · injection h2 with h2; exact h2.symm
      · cases h2
    subst hn
    rw [ht] at HX
    simp only at HX ⊢
    by_cases hl : st.length < (takesK op).length
    · rw [if_pos hl] at HX; rw [if_pos hl]; exact Or.inl ⟨rfl, HX⟩
    · rw [if_neg hl] at HX; rw [if_neg hl]
      by_cases hf : fitsP op (st.drop (st.length - (takesK op).length)) = true
      · rw [if_pos hf] at HX; rw [if_pos hf]
        refine Or.inr ⟨_, rfl, by omega, ?_, putP_sane _ _ _, putP_dep (fun x hx => hd x (List.mem_of_mem_drop hx))⟩
        rw [HX, Option.map_map]
        congr 1
        funext x
        simp
      · rw [if_neg hf] at HX; rw [if_neg hf]; exact Or.inl ⟨rfl, HX⟩
set_option maxHeartbeats 4000000 in
theorem Try.read_any (a : Option Addr) (len cap want : Nat) (ts : List Tk) (w : World) (hT : TkSl w a len cap ts) (hn : len ≤ 1000) :
    Calls Try.prog 61 #[.slice a len cap, .int .u8 (want : Int)] w fun e w' => ReadK 104 want (readP ts 0 []) w e w' ∧ Below w.heap.size w w' := by
  have hlen := hT.hlen
  go_enter Try.func61, Try.ntmps61
  go_wp2
  go_loopw [4, 6, 14] (fun v1 v2 j wr => ∃ (k : Nat) (all st : List Pt), k ≤ len ∧ j = .int .i64 k ∧ all.length = k ∧ st.length ≤ k ∧ (∀ x ∈ st, x.dep ≤ k) ∧ (∀ x ∈ st, Sane x) ∧ Hid (readP ts 0 [] = (readP (ts.drop k) k st).map fun x => (all ++ x.1, x.2)) ∧ Hid (wr.ownsRow w.heap.size 104 3 v1 all.length (encK (all.map kp))) ∧ Hid (wr.ownsRow w.heap.size 104 3 v2 st.length (encK (st.map kp))) ∧ Hid (∀ b1, v1.ownBlock = some b1 → v2.ownBlock ≠ some b1) ∧ Hid (Below w.heap.size w wr)) (fun _ _ j _ => len - (intOf j).toNat)
  case atStart => exact ⟨0, [], [], Nat.zero_le _, rfl, rfl, Nat.le_refl _, by simp, by simp, by show _ = _; simp, ⟨rfl, Or.inl ⟨rfl, rfl⟩⟩, ⟨rfl, Or.inl ⟨rfl, rfl⟩⟩, fun b h => by simp [Value.ownBlock] at h, Below.refl _ _⟩
  case round =>
    obtain ⟨k, all, st, hk, rfl, hal, hst, hdp, hsn, HR, HO1, HO2, HD, hbk⟩ := hrel
    by_cases hlt : k < len
    · have hkl : k < ts.length := by omega
      obtain ⟨g, o, s, hidx0, hc0, hc1, hgw, _⟩ := (hT.up hbk.out).at Try.underlying22 Try.sizeTok k hlt
      have hidx := fun w' => hidx0 len w' hlt
      clear hidx0
      have hokk := hT.ok ts[k] (List.getElem_mem hkl)
      have HC : Hid _ := List.drop_eq_getElem_cons hkl
      have HS : Hid _ := HR.out.trans (congrArg _ (congrFun (congrFun (congrArg readP HC.out) k) st))
      generalize ts[k] = t at *
      obtain ⟨op, pp⟩ := t
      dsimp only at *
      obtain ⟨a2, g2, cap2, rfl, hK2, hcut⟩ := own_kp HO2.out Try.underlying68 Try.sizeKp
      have hTk : TkSl _ _ _ _ _ := hT
      have hsd : ∀ x ∈ st.map kp, x.d ≤ 1000000 := fun x hx => by
        obtain ⟨y, hy, rfl⟩ := List.mem_map.1 hx
        have := hdp y hy
        show y.dep ≤ 1000000; omega
      have htk := fun w' (h : KpSl Try.prog 68 w' a2 g2 st.length cap2 (st.map kp)) => Try.take_any op pp k a2 g2 st.length cap2 (st.map kp) w' h hsd (by omega)
      have hnb := Blk.new wr 37 op pp
      have hK3 := hK2.up (below_new wr (.cells #[.int .u8 (op : Int), .int .u8 (pp : Int)] 37))
      have hb3 : Hid (Below _ _ _) := below_step hbk.out (below_new wr (.cells #[.int .u8 (op : Int), .int .u8 (pp : Int)] 37))
      have hO13 : Hid _ := owns_up HO1.out (below_new wr (.cells #[.int .u8 (op : Int), .int .u8 (pp : Int)] 37))
      have hO23 : Hid _ := owns_up HO2.out (below_new wr (.cells #[.int .u8 (op : Int), .int .u8 (pp : Int)] 37))
      rcases read_round HS.out hsn hdp with ⟨h1, h2⟩ | ⟨p, h1, hnl, h2, hps, hpd⟩
      · have HX : Hid _ := h2
        rw [h1] at htk
        clear h1 h2 HS HR
        go_wp2_with fail
        refine (htk _ hK3).mono ?_
        rintro e w3 ⟨rfl, hw3⟩
        have hb4 : Hid (Below _ _ _) := below_step hb3.out hw3
        go_wp2
        go_ret2
        exact ⟨by rw [HX.out]; rfl, hb4.out.alloc (by have := hb4.out.size; omega) _⟩
      · have HX : Hid _ := h2
        rw [h1] at htk
        clear h1 h2 HS HR
        generalize (takesK op).length = n at *
        have hcut1 : Hid _ := hcut (st.length - n) (by omega)
        obtain ⟨m, hm⟩ : ∃ m, m = st.length - n := ⟨_, rfl⟩
        rw [← hm] at hcut1 HX
        obtain ⟨v2, hv2⟩ : ∃ v2, v2 = Value.slice a2 m cap2 := ⟨_, rfl⟩
        rw [← hv2] at hcut1
        have htk2 : ∀ w', KpSl Try.prog 68 w' a2 g2 st.length cap2 (st.map kp) → Calls Try.prog 69 #[.slice a2 st.length cap2, .agg #[.int .u8 (op : Int), .int .u8 (pp : Int)], .int .i64 (k : Int)] w' fun e w'' => e = .returned (.tuple #[.agg (kpCells (kp p)), v2, .bool true]) ∧ Below w'.heap.size w' w'' := fun w' h => by
          rw [hv2, hm]; exact htk w' h
        have hmk : m ≤ st.length := by omega
        clear htk hcut hv2 hm
        have HD2 : Hid (∀ b1, u4.ownBlock = some b1 → v2.ownBlock ≠ some b1) := fun b1 h => by rw [hcut1.out.2]; exact HD.out b1 h
        go_wp2_with fail
        refine (htk2 _ hK3).mono ?_
        rintro e w3 ⟨rfl, hw3⟩
        have hb4 : Hid (Below _ _ _) := below_step hb3.out hw3
        have hO14 : Hid _ := owns_up hO13.out hw3
        have hO24 : Hid _ := owns_up (owns_up hcut1.out.1 (below_new wr (.cells #[.int .u8 (op : Int), .int .u8 (pp : Int)] 37))) hw3
        clear hw3 hO13 hO23 hK3 htk2 hcut1
        have hm1 := hb4.out.size
        generalize hkp : kp p = P at *
        have HA : Hid (KpBlk (w3.alloc (.cells (kpCells P) 104)) w3.heap.size 104 P) := KpBlk.new w3 104 P
        have hsz1 : (w3.alloc (.cells (kpCells P) 104)).heap.size = w3.heap.size + 1 := by simp
        have HA2 : Hid (KpBlk _ _ _ _) := KpBlk.new (w3.alloc (.cells (kpCells P) 104)) 104 P
        rw [hsz1] at HA2
        have HA1 : Hid (KpBlk _ _ _ _) := KpBlk.up HA.out (below_new _ (.cells (kpCells P) 104))
        have HO1 : Hid _ := World.ownsRow.alloc (World.ownsRow.alloc hO14.out (.cells (kpCells P) 104)) (.cells (kpCells P) 104)
        have HO2 : Hid _ := World.ownsRow.alloc (World.ownsRow.alloc hO24.out (.cells (kpCells P) 104)) (.cells (kpCells P) 104)
        have hb5 : Hid (Below w.heap.size w ((w3.alloc (.cells (kpCells P) 104)).alloc (.cells (kpCells P) 104))) := (hb4.out.alloc (by omega) _).alloc (by simp; omega) _
        obtain ⟨p0, p1, p2⟩ := P
        dsimp only [kpCells] at *
        rw [← List.map_take] at HO2
        go_wp2_with (at_builtin; refine Try.append_kp rfl _ _ rfl w.heap.size _ m ((st.take m).map kp) rfl HO2.out (w3.heap.size + 1) ⟨p0, p1, p2⟩ rfl HA2.out (by omega) (by simp; omega) ?_)
        intro v3 w5 hown3 hgr3 hat3
        have hlt2 := World.ownsRow.lt hO24.out
        have hlt1 := World.ownsRow.lt hO14.out
        have HB5 : Hid (KpBlk w5 w3.heap.size 104 ⟨p0, p1, p2⟩) := KpBlk.grown HA1.out hgr3 (fun e => by have := hlt2 _ e; omega)
        have HO15 : Hid _ := World.ownsRow.kept HO1.out hgr3 (by
          cases h4 : u4.ownBlock with
          | none => exact Or.inl rfl
          | some j => exact Or.inr (fun e => HD2.out j h4 e.symm))
        have HO25 : Hid _ := hown3
        have hb6 : Hid (Below w.heap.size w w5) := hb5.out.grown hgr3 (by simp; omega) (fun j e => (hlt2 j e).1)
        have hsw5 := hb6.out.size
        have hsz5 := hgr3.size
        have HD3 : Hid (∀ b1, u4.ownBlock = some b1 → v3.ownBlock ≠ some b1) := fun b1 h e => by
          rcases hat3 with h3 | h3
          · rw [h3] at e; exact HD2.out b1 h e
          · rw [h3] at e; injection e with e; have := hlt1 b1 h; omega
        have hs5 : w3.heap.size + 1 + 1 ≤ w5.heap.size := by have := hgr3.size; simpa using this
        clear hown3 hgr3 hat3 HO2 HO1 hb5 HA HA1 HA2 hO24 HD2 hsz5
        have h50 := HB5.out.c0
        have h51 := HB5.out.c1
        have h52 := HB5.out.c2
        have HN : Hid (KpBlk _ _ _ _) := KpBlk.new w5 104 ⟨p0, p1, p2⟩
        have HO6 : Hid _ := World.ownsRow.alloc HO15.out (.cells (kpCells ⟨p0, p1, p2⟩) 104)
        go_wp2_with (at_builtin; refine Try.append_kp rfl _ _ rfl w.heap.size _ all.length (all.map kp) rfl HO6.out w5.heap.size ⟨p0, p1, p2⟩ rfl HN.out (by omega) (by simp; omega) ?_)
        intro v6 w6 hown6 hgr6 hat6
        have HO7 : Hid _ := hown6
        have hO26 : Hid _ := World.ownsRow.kept (World.ownsRow.alloc HO25.out (.cells (kpCells ⟨p0, p1, p2⟩) 104)) hgr6 (by
          cases h4 : v3.ownBlock with
          | none => exact Or.inl rfl
          | some j => exact Or.inr (fun e => HD3.out j e.symm h4))
        have hb7 : Hid (Below w.heap.size w w6) := (hb6.out.alloc (by omega) _).grown hgr6 (by simp; omega) (fun j e => (hlt1 j e).1)
        have hlt3 := World.ownsRow.lt HO25.out
        have HD4 : Hid (∀ b1, v6.ownBlock = some b1 → v3.ownBlock ≠ some b1) := fun b1 h e => by
          rcases hat6 with h3 | h3
          · rw [h3] at h; exact HD3.out b1 h e
          · rw [h3] at h; injection h with h; have := hlt3 b1 e; omega
        clear hown6 hgr6 hat6 h50 h51 h52
        go_wp2
        go_roundw
        case rel =>
          refine ⟨k + 1, all ++ [p], st.take m ++ [p], by omega, by go_num, by simp; omega, by simp; omega, ?_, ?_, ?_, ?_, ?_, HD4, hb7⟩
          · intro x hx
            rcases List.mem_append.1 hx with h | h
            · have := hdp x (List.mem_of_mem_take h); omega
            · rw [List.mem_singleton.1 h]; exact hpd
          · intro x hx
            rcases List.mem_append.1 hx with h | h
            · exact hsn x (List.mem_of_mem_take h)
            · rw [List.mem_singleton.1 h]; exact hps
          · exact HX.out
          · show World.ownsRow _ _ _ _ _ _ _
            have h := HO7.out
            rw [List.map_append, List.length_append]
            show World.ownsRow _ _ _ _ _ (all.length + 1) (encK (all.map kp ++ [kp p]))
            rw [hkp, hal]; exact h
          · show World.ownsRow _ _ _ _ _ _ _
            have h := hO26.out
            rw [List.map_append, List.length_append, List.length_take, Nat.min_eq_left hmk]
            show World.ownsRow _ _ _ _ _ (m + 1) (encK ((st.take m).map kp ++ [kp p]))
            rw [hkp, List.map_take]; exact h
        case measure => simp [intOf]; omega
    · obtain rfl : k = len := by omega
      have HX : Hid (readP ts 0 [] = some (all, st)) := by
        show _ = _
        have h := HR.out
        rw [List.drop_of_length_le (by omega)] at h
        rw [h]; simp [readP]
      obtain ⟨a2, g2, cap2, rfl, hK2, hcut⟩ := own_kp HO2.out Try.underlying68 Try.sizeKp
      clear hcut
      by_cases h1 : st.length = 1
      · obtain ⟨q, rfl⟩ := List.length_eq_one_iff.1 h1
        have hidx : ∀ w', (Instr.indexAt 68 (.slice a2 1 cap2) (.int .i64 0)).run Try.prog w' = .ok (.pointer (some ⟨g2, 3 * 0, none⟩)) w' := fun w' => hK2.idx 1 0 w' (by decide) (Nat.le_refl _)
        have hc0 : wr.cell? ⟨g2, 3 * 0, none⟩ = some (.int .u8 ((kp q).k : Int)) := hK2.c0 0 (by simp)
        have hc1 : wr.cell? ⟨g2, 3 * 0 + 1, none⟩ = some (.int .i64 ((kp q).b : Int)) := hK2.c1 0 (by simp)
        have hc2 : wr.cell? ⟨g2, 3 * 0 + 2, none⟩ = some (.int .i64 ((kp q).d : Int)) := hK2.c2 0 (by simp)
        have hi := fun w => Try.is_any (kp q) want w
        have HI : Hid ((kp q).k = kindOf q) := rfl
        generalize kp q = qk at *
        obtain ⟨q0, q1, q2⟩ := qk
        generalize 3 * 0 = z0 at *
        dsimp only [kpCells, List.length_singleton] at *
        go_wp2_with fail
        refine (hi _).mono ?_
        rintro e w3 ⟨rfl, hw3⟩
        have HO8 : Hid _ := owns_up HO1.out hw3
        have hb8 : Hid (Below _ _ _) := below_step hbk.out hw3
        go_wp2
        go_ret2
        refine ⟨?_, hb8.out⟩
        rw [HX.out]
        refine ⟨u4, ?_, HO8.out⟩
        show _ = Ending.returned (.tuple #[u4, .bool (isK (kindOf q) want)])
        rw [← HI.out]; rfl
      · have hq : ((st.length : Int) == 1) = false := by rw [beq_eq_false_iff_ne]; omega
        go_wp2
        go_ret2
        refine ⟨?_, hbk.out⟩
        rw [HX.out]
        refine ⟨_, ?_, HO1.out⟩
        match st, h1 with
        | [], _ => rfl
        | [q], h1 => exact absurd rfl h1
        | x :: y :: r, _ => rfl
/-- What look answers: the parts, or nothing and the error. -/
def LookR (T : TypeId) (E : Nat) (all : List Pt) (w : World) (e : Ending) (w' : World) : Prop :=
  ∃ v, e = .returned (.tuple #[v, .int .i64 (E : Int)]) ∧ (E = 0 → w'.ownsRow w.heap.size T 3 v all.length (encK (all.map kp))) ∧ (E ≠ 0 → v = .slice none 0 0)
theorem read_last {ts : List Tk} {all : List Pt} {p : Pt} (h : readP ts 0 [] = some (all, [p])) : ∃ q, all = q ++ [p] := by
  obtain ⟨t, h1, h2, h3, h4⟩ := read_one.1 h
  obtain ⟨q, hq, _⟩ := parts_last t 0
  exact ⟨q, by rw [h3, hq, h4]⟩
theorem read_length : ∀ (ts : List Tk) (i : Nat) (st all s : List Pt), readP ts i st = some (all, s) → all.length = ts.length
  | [], i, st, all, s, h => by unfold readP at h; injection h with h; injection h with h1 h2; rw [← h1]; rfl
  | t :: r, i, st, all, s, h => by
    rw [readP_step] at h
    split at h
    · cases h
    · split at h
      · cases h
      · split at h
        · cases hr : readP r (i + 1) (st.take (st.length - _) ++ [putP t (st.drop (st.length - _)) i]) with
          | none => rw [hr] at h; cases h
          | some x =>
            rw [hr] at h
            injection h with h
            injection h with h1 h2
            rw [← h1, List.length_cons, read_length r _ _ x.1 x.2 hr, List.length_cons]
        · cases h
set_option maxHeartbeats 2000000 in
theorem Try.look_any (a : Option Addr) (len cap want : Nat) (ts : List Tk) (w : World) (hT : TkSl w a len cap ts) :
    Calls Try.prog 40 #[.slice a len cap, .int .u8 (want : Int)] w fun e w' => LookR 104 (lookE ts want) (allP ts) w e w' ∧ Below w.heap.size w w' := by
  have hlen := hT.hlen
  have hlm := hT.hcap
  have hbm := hT.bd
  by_cases h512 : 512 < len
  · have HE : Hid (lookE ts want = 3) := by show _ = _; unfold lookE; rw [if_pos (by omega)]
    have hg : (512 : Int) < (len : Int) := by omega
    go_enter Try.func40, Try.ntmps40
    go_wp2
    go_ret2
    rw [HE.out]
    exact ⟨⟨_, rfl, fun h => absurd h (by decide), fun _ => rfl⟩, Below.refl _ _⟩
  · have hg : ¬ 512 < len := h512
    have hr := fun w' (h : TkSl w' a len cap ts) => Try.read_any a len cap want ts w' h (by omega)
    have HE : Hid (lookE ts want = lookOf (readP ts 0 []) want) := by show _ = _; unfold lookE; rw [if_neg (by omega)]
    have HA : Hid (allP ts = match readP ts 0 [] with | some x => x.1 | none => []) := rfl
    have HL : Hid (∀ all p, readP ts 0 [] = some (all, [p]) → ∃ q, all = q ++ [p]) := fun all p h => read_last h
    have HN : Hid (∀ all st, readP ts 0 [] = some (all, st) → all.length = ts.length) := fun all st h => read_length ts 0 [] all st h
    generalize lookE ts want = E at *
    generalize allP ts = A at *
    go_enter Try.func40, Try.ntmps40
    go_wp2_with fail
    refine (hr _ hT).mono ?_
    rintro e w1 ⟨hR, hw1⟩
    generalize readP ts 0 [] = R at *
    cases R with
    | none =>
      have he : e = _ := hR
      subst he
      have HE7 : Hid (E = 7) := HE.out
      go_wp2
      go_ret2
      rw [HE7.out]
      exact ⟨⟨_, rfl, fun h => absurd h (by decide), fun _ => rfl⟩, hw1⟩
    | some x =>
      obtain ⟨all, st⟩ := x
      obtain ⟨v, rfl, hown⟩ := hR
      have HOW : Hid _ := hown
      have HAE : Hid (A = all) := HA.out
      have HNL : Hid (all.length = ts.length) := HN.out all st rfl
      clear hown HA HN
      by_cases hone : ∃ p, st = [p]
      · obtain ⟨p, rfl⟩ := hone
        have HE2 : Hid (E = if isK (kindOf p) want then (if 64 < p.dep then 8 else 0) else 7) := HE.out
        obtain ⟨q, hq⟩ := HL.out all p rfl
        clear HE HL
        have hoz : oneK [p] want = isK (kindOf p) want := rfl
        dsimp only
        rw [hoz]
        generalize isK (kindOf p) want = z at *
        clear hoz
        cases z with
        | false =>
          have HE7 : Hid (E = 7) := HE2.out
          go_wp2
          go_ret2
          rw [HE7.out]
          exact ⟨⟨_, rfl, fun h => absurd h (by decide), fun _ => rfl⟩, hw1⟩
        | true =>
          obtain ⟨a2, g2, cap2, rfl, hK2, _⟩ := own_kp HOW.out Try.underlying68 Try.sizeKp
          have hql : all.length = q.length + 1 := by rw [hq]; simp
          have hall := HNL.out
          have hidx := fun w' => hK2.idx all.length q.length w' (by omega) (Nat.le_refl _)
          have hc2 := hK2.c2 q.length (by simp; omega)
          have hce : (all.map kp)[q.length]'(by simp; omega) = kp p := by simp [hq]
          rw [hce] at hc2
          have hc2' : w1.cell? ⟨g2, 3 * q.length + 2, none⟩ = some (.int .i64 (p.dep : Int)) := hc2
          have hw : IntKind.i64.wrap ((all.length : Int) - 1) = (q.length : Int) := by rw [IntKind.wrap_i64]; omega
          have HOW2 : Hid (A.length = all.length ∧ A = all) := ⟨by rw [HAE.out], HAE.out⟩
          clear hc2 hce hq hr hall HNL HAE hK2
          generalize p.dep = d at *
          generalize q.length = L at *
          obtain ⟨M, hM⟩ : ∃ M, M = all.length := ⟨_, rfl⟩
          rw [← hM] at hidx hw hql ⊢
          have HM : Hid (M = all.length) := hM
          clear hM hql
          by_cases hd : 64 < d
          · have HE8 : Hid (E = 8) := HE2.out.trans (if_pos hd)
            have hd' : (64 : Int) < (d : Int) := by omega
            go_wp2
            go_ret2
            rw [HE8.out]
            exact ⟨⟨_, rfl, fun h => absurd h (by decide), fun _ => rfl⟩, hw1⟩
          · have HE0 : Hid (E = 0) := HE2.out.trans (if_neg hd)
            go_wp2
            go_ret2
            rw [HE0.out]
            exact ⟨⟨_, rfl, fun _ => by rw [HOW2.out.2, HM.out]; exact HOW.out, fun h => absurd rfl h⟩, hw1⟩
      · have hf : oneK st want = false := by
          match st, hone with
          | [], _ => rfl
          | [p], h => exact absurd ⟨p, rfl⟩ h
          | x :: y :: r, _ => rfl
        have HE7 : Hid (E = 7) := by
          show _ = _
          rw [HE.out]
          match st, hone with
          | [], _ => rfl
          | [p], h => exact absurd ⟨p, rfl⟩ h
          | x :: y :: r, _ => rfl
        dsimp only
        rw [hf]
        go_wp2
        go_ret2
        rw [HE7.out]
        exact ⟨⟨_, rfl, fun h => absurd h (by decide), fun _ => rfl⟩, hw1⟩
end Go.Proofs.Ytfgaieefejdkbaa
