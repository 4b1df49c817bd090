/- There and back, plain: a letter's text is read as the letter, what is read is printed as it was; traces likewise. -/
import Derived.Test.YtmmjihalpmahnaaDoorWLAll
namespace Go.Proofs.YtmmjihalpmahnaaDoor
open Go.RowKit Go.Maps

theorem bitB_test (x k : Nat) (hk : k < 8) : bitB (x : Int) (k : Int) = x.testBit k := by
  rw [bitB_nat x k hk, Nat.testBit_eq_decide_div_mod_eq]

/-- The names that hold in a letter, among the first k. -/
def onL (x : Nat) (ns : List Bytes) : Nat → List Bytes
  | 0 => []
  | k + 1 => onL x ns k ++ (if x.testBit k then [ns.getD k []] else [])
theorem onL_t {x : Nat} {ns : List Bytes} {k : Nat} (h : x.testBit k = true) : onL x ns (k + 1) = onL x ns k ++ [ns.getD k []] := by simp [onL, h]
theorem onL_f {x : Nat} {ns : List Bytes} {k : Nat} (h : x.testBit k = false) : onL x ns (k + 1) = onL x ns k := by simp [onL, h]
theorem nms_onB (x : Nat) (ss : List ByteArray) (h8 : ss.length ≤ 8) : ∀ k, k ≤ ss.length → nms (onB x ss k) = onL x (nms ss) k
  | 0, _ => rfl
  | k + 1, hk => by
    have hb := bitB_test x k (by omega)
    have ih := nms_onB x ss h8 k (by omega)
    have hg := nms_get (ss := ss) (k := k) (by omega)
    have e : (nms ss).getD k [] = (ss.getD k ByteArray.empty).toList := by rw [List.getD_eq_getElem?_getD, hg]; rfl
    cases ht : x.testBit k with
    | true => rw [onB_t (by rw [hb, ht]), onL_t ht, nms_append, ih, e]; simp [nms]
    | false => rw [onB_f (by rw [hb, ht]), onL_f ht, ih]
theorem onL_mem {x : Nat} {ns : List Bytes} : ∀ {k : Nat} {s : Bytes}, k ≤ ns.length → s ∈ onL x ns k → s ∈ ns
  | 0, s, _, h => by simp [onL] at h
  | k + 1, s, hk, h => by
    simp only [onL, List.mem_append] at h
    rcases h with h | h
    · exact onL_mem (by omega) h
    · split at h
      · simp only [List.mem_singleton] at h; subst h
        rw [List.getD_eq_getElem?_getD, List.getElem?_eq_getElem (by omega)]; exact List.getElem_mem _
      · simp at h
theorem onL_len (x : Nat) (ns : List Bytes) : ∀ k, (onL x ns k).length ≤ k
  | 0 => by simp [onL]
  | k + 1 => by have := onL_len x ns k; simp [onL]; split <;> simp <;> omega
theorem onL_high {x : Nat} {ns : List Bytes} {m : Nat} (hx : x < 2 ^ m) : ∀ d, onL x ns (m + d) = onL x ns m
  | 0 => rfl
  | d + 1 => by
    have hf : x.testBit (m + d) = false := Nat.testBit_lt_two_pow (Nat.lt_of_lt_of_le hx (Nat.pow_le_pow_right (by decide) (by omega)))
    rw [← Nat.add_assoc, onL_f hf, onL_high hx d]
theorem onL_low {x i : Nat} {ns : List Bytes} : ∀ k, k ≤ i → onL (2 ^ i + x) ns k = onL x ns k
  | 0, _ => rfl
  | k + 1, hk => by
    have hb : (2 ^ i + x).testBit k = x.testBit k := Nat.testBit_two_pow_add_gt (by omega) x
    unfold onL; rw [hb, onL_low k (by omega)]

def textL (x : Nat) (ns : List Bytes) : Bytes := if onL x ns ns.length = [] then [45] else Lib.join (onL x ns ns.length) [32]
theorem textB_L (x : Nat) (ss : List ByteArray) (h8 : ss.length ≤ 8) : (textB x ss).toList = textL x (nms ss) := by
  have h := nms_onB x ss h8 ss.length (Nat.le_refl _)
  unfold textB textL
  rw [nms_len, ← h]
  have e1 : nms (onB x ss ss.length) = (onB x ss ss.length).map (·.data.toList) := by unfold nms; exact List.map_congr_left fun y _ => ByteArray.toList_eq y
  by_cases hn : onB x ss ss.length = []
  · rw [if_pos hn, hn, ByteArray.toList_eq]; rfl
  · rw [if_neg hn, if_neg (by rw [e1]; simpa using hn), ByteArray.toList_eq, e1]

/-! ### names hold no blank, no semicolon, and begin with a small letter -/
theorem name_bytes {s : Bytes} (h : nameL s = true) : ∀ c ∈ s, c ≠ 32 ∧ c ≠ 59 ∧ c ≠ 45 := by
  unfold nameL at h
  simp only [Bool.and_eq_true] at h
  intro c hc
  have hb := List.all_eq_true.1 h.1.2 c hc
  unfold byteB smallB digitB at hb
  simp only [Bool.or_eq_true, decide_eq_true_eq] at hb
  refine ⟨?_, ?_, ?_⟩ <;> (rintro rfl; simp at hb)
theorem name_ne {s : Bytes} (h : nameL s = true) : s ≠ [] := by
  have := nameL_len h; intro e; subst e; simp at this

theorem join_len1 (c : UInt8) (n : Nat) : ∀ (xs : List Bytes), xs ≠ [] → (∀ x ∈ xs, x.length ≤ n) → (Lib.join xs [c]).length + 1 ≤ xs.length * (n + 1)
  | [x], _, h => by rw [Lib.join_one]; have := h x (by simp); simp; omega
  | x :: y :: r, _, h => by
    have ih := join_len1 c n (y :: r) (by simp) (fun z hz => h z (by simp [hz]))
    have hx := h x (by simp)
    have e : Lib.join (x :: y :: r) [c] = x ++ c :: Lib.join (y :: r) [c] := by
      rw [Lib.join_cons, Lib.join_cons, Lib.joinTail]; simp [Lib.joinTail]
    rw [e]
    simp only [List.length_append, List.length_cons] at ih ⊢
    rw [Nat.add_mul]; omega
theorem join_mem {c : UInt8} : ∀ {xs : List Bytes} {d : UInt8}, d ∈ Lib.join xs [c] → d = c ∨ ∃ x ∈ xs, d ∈ x
  | [], d, h => by simp [Lib.join_nil] at h
  | [x], d, h => by rw [Lib.join_one] at h; exact Or.inr ⟨x, by simp, h⟩
  | x :: y :: r, d, h => by
    have e : Lib.join (x :: y :: r) [c] = x ++ c :: Lib.join (y :: r) [c] := by
      rw [Lib.join_cons, Lib.join_cons, Lib.joinTail]; simp [Lib.joinTail]
    rw [e] at h
    simp only [List.mem_append, List.mem_cons] at h
    rcases h with h | h | h
    · exact Or.inr ⟨x, by simp, h⟩
    · exact Or.inl h
    · rcases join_mem h with h | ⟨z, hz, hd⟩
      · exact Or.inl h
      · exact Or.inr ⟨z, by simp [List.mem_cons.1 hz], hd⟩

/-! ### read of text -/
def lst (x : Nat) : Nat → Nat
  | 0 => 0
  | k + 1 => if x.testBit k then k + 1 else lst x k
theorem lst_le (x : Nat) : ∀ k, lst x k ≤ k
  | 0 => Nat.le_refl _
  | k + 1 => by have := lst_le x k; unfold lst; split <;> omega
theorem test_mod (x k : Nat) : x % 2 ^ (k + 1) = x % 2 ^ k + (if x.testBit k then 2 ^ k else 0) := by
  rw [mod_next, Nat.testBit_eq_decide_div_mod_eq]
  by_cases h : x / 2 ^ k % 2 = 1
  · rw [h]; simp
  · rw [(Nat.mod_two_eq_zero_or_one _).resolve_right h]; simp
theorem read_on {ns : List Bytes} (hnd : NDk ns ns.length) (h8 : ns.length ≤ 8) (x : Nat) : ∀ k, k ≤ ns.length → ∀ rest, readGo ns (onL x ns k ++ rest) 0 0 = readGo ns rest (lst x k : Nat) ((x % 2 ^ k : Nat) : Int)
  | 0, _, rest => by simp [onL, lst, Nat.mod_one]
  | k + 1, hk, rest => by
    have hm := test_mod x k
    cases ht : x.testBit k with
    | true =>
      have hg : ns[k]? = some (ns.getD k []) := by rw [List.getD_eq_getElem?_getD, List.getElem?_eq_getElem (by omega)]; rfl
      have hat := atI_hit hg (hnd k _ (by omega) hg)
      have hl := lst_le x k
      rw [onL_t ht, List.append_assoc, read_on hnd h8 x k (by omega), List.singleton_append, readGo, hat, if_neg (by omega), Int.toNat_natCast, or_bit _ k (Nat.mod_lt _ (Nat.two_pow_pos k)) (by omega), hm, ht]
      unfold lst; rw [ht]; simp
    | false =>
      rw [onL_f ht, read_on hnd h8 x k (by omega), hm, ht]
      conv => rhs; unfold lst
      rw [ht]; simp
theorem read_text {ns : List Bytes} (hz : checkE ns = 0) {x : Nat} (hx : x < 2 ^ ns.length) : readL ns (textL x ns) = some (x : Int) := by
  have hnd := checkE_nd hz
  have h8 := checkE_len hz
  have hr := read_on hnd h8 x ns.length (Nat.le_refl _) []
  rw [List.append_nil, Nat.mod_eq_of_lt hx] at hr
  unfold textL
  by_cases hn : onL x ns ns.length = []
  · rw [if_pos hn]
    rw [hn] at hr
    unfold readL; rw [if_pos rfl]
    have : some (0 : Int) = some (x : Int) := hr
    exact this
  · rw [if_neg hn]
    have hmem : ∀ y ∈ onL x ns ns.length, nameL y = true := fun y hy => checkE_names hz y (onL_mem (Nat.le_refl _) hy)
    have hlen := join_len1 32 20 _ hn (fun y hy => (nameL_len (hmem y hy)).2)
    have hcnt := onL_len x ns ns.length
    have hmul : (onL x ns ns.length).length * (20 + 1) ≤ 8 * 21 := Nat.mul_le_mul (by omega) (by decide)
    have hcut : cut 32 (Lib.join (onL x ns ns.length) [32]) = onL x ns ns.length := cut_join 32 _ hn (fun y hy hc => (name_bytes (hmem y hy) 32 hc).1 rfl)
    have hne : Lib.join (onL x ns ns.length) [32] ≠ [45] := by
      intro e
      cases hl : onL x ns ns.length with
      | nil => exact hn hl
      | cons y r =>
        rw [hl, Lib.join_cons] at e
        have hy := hmem y (by rw [hl]; simp)
        cases y with
        | nil => exact name_ne hy rfl
        | cons b t =>
          simp at e
          exact (name_bytes hy b (by simp)).2.2 e.1
    unfold readL
    rw [if_neg hne, if_neg (by omega), hcut, hr]; rfl

/-! ### text of what is read -/
theorem text_go {ns : List Bytes} (h8 : ns.length ≤ 8) : ∀ (ps : List Bytes) (m x : Nat) (l : Int), m ≤ ns.length → x < 2 ^ m → readGo ns ps (m : Int) (x : Int) = some l → ∃ y : Nat, l = (y : Int) ∧ y < 2 ^ ns.length ∧ onL y ns ns.length = onL x ns m ++ ps
  | [], m, x, l, hm, hx, h => by
    simp only [readGo, Option.some.injEq] at h
    refine ⟨x, h.symm, Nat.lt_of_lt_of_le hx (Nat.pow_le_pow_right (by decide) hm), ?_⟩
    rw [List.append_nil]
    have := onL_high (ns := ns) hx (ns.length - m)
    rwa [Nat.add_sub_cancel' hm] at this
  | p :: r, m, x, l, hm, hx, h => by
    rw [readGo] at h
    split at h
    · exact absurd h (by simp)
    · rename_i hc
      have hlt := (atI_lt ns p).2
      have hge : (m : Int) ≤ atI ns p := by omega
      obtain ⟨i, hi⟩ : ∃ i : Nat, atI ns p = i := ⟨(atI ns p).toNat, by omega⟩
      rw [hi] at h hlt hge
      have hin : i < ns.length := by omega
      have hmi : m ≤ i := by omega
      have hxi : x < 2 ^ i := Nat.lt_of_lt_of_le hx (Nat.pow_le_pow_right (by decide) hmi)
      rw [Int.toNat_natCast, or_bit x i hxi (by omega)] at h
      have hp : ns.getD i [] = p := by
        unfold atI at hi
        split at hi
        · rename_i hcon
          have hmem : p ∈ ns := by simpa using hcon
          have hidx : ns.idxOf p = i := by omega
          rw [List.getD_eq_getElem?_getD, List.getElem?_eq_getElem hin]
          have := List.getElem_idxOf (xs := ns) (x := p) (by rw [hidx]; exact hin)
          simp only [hidx] at this
          simp [this]
        · omega
      have hx' : x + 2 ^ i < 2 ^ (i + 1) := by rw [Nat.pow_succ]; omega
      obtain ⟨y, hy, hyl, hon⟩ := text_go h8 r (i + 1) (x + 2 ^ i) l (by omega) hx' (by exact_mod_cast h)
      refine ⟨y, hy, hyl, ?_⟩
      rw [hon]
      have ht : (x + 2 ^ i).testBit i = true := by
        rw [Nat.add_comm, Nat.testBit_two_pow_add_eq, Nat.testBit_lt_two_pow hxi]; rfl
      have h1 := onL_low (ns := ns) (x := x) (i := i) i (Nat.le_refl _)
      have h2 := onL_high (ns := ns) hx (i - m)
      rw [Nat.add_sub_cancel' hmi] at h2
      rw [onL_t ht, hp, Nat.add_comm x, h1, h2]; simp
theorem text_read {ns : List Bytes} (hz : checkE ns = 0) {s : Bytes} {l : Int} (h : readL ns s = some l) : ∃ y : Nat, l = (y : Int) ∧ y < 2 ^ ns.length ∧ textL y ns = s := by
  have h8 := checkE_len hz
  unfold readL at h
  split at h
  · rename_i hs
    simp only [Option.some.injEq] at h
    refine ⟨0, h.symm, Nat.two_pow_pos _, ?_⟩
    have : onL 0 ns ns.length = [] := by have := onL_high (x := 0) (ns := ns) (m := 0) (by decide) ns.length; rwa [Nat.zero_add] at this
    unfold textL; rw [if_pos this, hs]
  · split at h
    · exact absurd h (by simp)
    · obtain ⟨y, hy, hyl, hon⟩ := text_go h8 (cut 32 s) 0 0 l (Nat.zero_le _) (by decide) h
      refine ⟨y, hy, hyl, ?_⟩
      simp only [onL, List.nil_append] at hon
      unfold textL; rw [hon, if_neg (cut_ne 32 s), join_cut]
end Go.Proofs.YtmmjihalpmahnaaDoor
