/- The law LetterBack, walked: printed and read again, read and printed again. -/
import Derived.Test.YtmmjihalpmahnaaDoorPlainR
namespace Go.Proofs.YtmmjihalpmahnaaDoor
open Go.RowKit Go.Maps

theorem fits_lt {n : Nat} {z : Int} (h8 : n ≤ 8) (h0 : 0 ≤ z) (h : fitsB n z = true) : ∃ x : Nat, z = (x : Int) ∧ x < 2 ^ n := by
  obtain ⟨x, rfl⟩ := Int.eq_ofNat_of_zero_le h0
  refine ⟨x, rfl, ?_⟩
  rw [fitsB_t (by omega) (by omega), Int.toNat_natCast, pow_cast] at h
  have h1 : (x : Int) / ((2 ^ n : Nat) : Int) = ((x / 2 ^ n : Nat) : Int) := (Int.natCast_ediv _ _).symm
  rw [h1] at h
  have h2 : x / 2 ^ n = 0 := by
    generalize x / 2 ^ n = q at h
    have : (q : Int) = 0 := by simpa using h
    omega
  have := Nat.div_add_mod x (2 ^ n)
  rw [h2, Nat.mul_zero, Nat.zero_add] at this
  rw [← this]; exact Nat.mod_lt _ (Nat.two_pow_pos n)
theorem lt_fits {n x : Nat} (h8 : n ≤ 8) (h : x < 2 ^ n) : fitsB n (x : Int) = true := by
  have := fits_all (n := (n : Int)) (i := x) (by omega) (by omega) (by unfold powN; rw [Int.toNat_natCast]; exact h)
  exact this

/-- Parse of Print is the letter. -/
theorem parse_print {ss : List ByteArray} {l : Int} (hz : checkE (nms ss) = 0) (h0 : 0 ≤ l) (hf : fitsB ss.length l = true) : parseE (nms ss) (textB l ss).toList = (l, 0) := by
  have h8 := checkE_len hz
  rw [nms_len] at h8
  obtain ⟨x, rfl, hx⟩ := fits_lt h8 h0 hf
  rw [textB_L x ss h8]
  unfold parseE; rw [if_pos hz, read_text hz (by rw [nms_len]; exact hx)]

theorem traceE_fits {n : Nat} {zs : List Int} (h : traceE n zs = 0) : ∀ z ∈ zs, fitsB n z = true := by
  unfold traceE at h; split at h
  · split at h
    · exact absurd h (by decide)
    · split at h
      · rename_i ha; intro z hz; exact List.all_eq_true.1 ha z hz
      · exact absurd h (by decide)
  · exact absurd h (by decide)
theorem traceB_L (zs : List Int) (ss : List ByteArray) : (traceB zs ss).toList = Lib.join (zs.map (fun z => (textB z ss).toList)) [59] := by
  have e : zs.map ((fun x => x.data.toList) ∘ fun z => textB z ss) = zs.map (fun z => (textB z ss).toList) := List.map_congr_left fun z _ => (ByteArray.toList_eq _).symm
  unfold traceB; rw [ByteArray.toList_eq, List.map_map, e]
theorem text_59 {ns : List Bytes} (hz : checkE ns = 0) (x : Nat) : (59 : UInt8) ∉ textL x ns ∧ textL x ns ≠ [] := by
  unfold textL
  split
  · exact ⟨by decide, by simp⟩
  · rename_i hn
    have hmem : ∀ y ∈ onL x ns ns.length, nameL y = true := fun y hy => checkE_names hz y (onL_mem (Nat.le_refl _) hy)
    refine ⟨fun h => ?_, fun h => ?_⟩
    · rcases join_mem h with h | ⟨y, hy, hd⟩
      · exact absurd h (by decide)
      · exact (name_bytes (hmem y hy) 59 hd).2.1 rfl
    · cases hl : onL x ns ns.length with
      | nil => exact hn hl
      | cons y r =>
        rw [hl, Lib.join_cons] at h
        have hy := name_ne (hmem y (by rw [hl]; simp))
        simp at h; exact hy h.1
theorem join_nil_iff {c : UInt8} {xs : List Bytes} (hn : xs ≠ []) (h : ∀ x ∈ xs, x ≠ []) : Lib.join xs [c] ≠ [] := by
  cases xs with
  | nil => exact absurd rfl hn
  | cons x r => rw [Lib.join_cons]; intro e; simp at e; exact h x (by simp) e.1

/-- ParseTrace of PrintTrace is the trace. -/
theorem parseT_printT {ss : List ByteArray} {zs : List Int} (hz : checkE (nms ss) = 0) (hv : ∀ z ∈ zs, 0 ≤ z ∧ z < 256) (ht : traceE ss.length zs = 0) (h4 : (traceB zs ss).size ≤ 4096) : parseTE (nms ss) (traceB zs ss).toList = (zs, 0) := by
  have h8 := checkE_len hz
  rw [nms_len] at h8
  have hf := traceE_fits ht
  have hl := traceE_len ht
  have hx : ∀ z ∈ zs, ∃ x : Nat, z = (x : Int) ∧ x < 2 ^ ss.length := fun z hz => fits_lt h8 (hv z hz).1 (hf z hz)
  have hsz : (traceB zs ss).toList.length ≤ 4096 := by rw [tl_len]; exact h4
  have ht59 : ∀ y ∈ zs.map (fun z => (textB z ss).toList), (59 : UInt8) ∉ y ∧ y ≠ [] := fun y hy => by
    obtain ⟨z, hzm, rfl⟩ := List.mem_map.1 hy
    obtain ⟨x, rfl, _⟩ := hx z hzm
    show (59 : UInt8) ∉ (textB x ss).toList ∧ (textB x ss).toList ≠ []
    rw [textB_L x ss h8]; exact text_59 hz x
  unfold parseTE
  rw [if_pos hz, if_neg (by omega)]
  by_cases hn : zs = []
  · subst hn
    have e : (traceB [] ss).toList = [] := by rw [traceB_L]; rfl
    rw [e, if_pos rfl]
  · have hn' : zs.map (fun z => (textB z ss).toList) ≠ [] := by simpa using hn
    have hne : (traceB zs ss).toList ≠ [] := by rw [traceB_L]; exact join_nil_iff hn' (fun y hy => (ht59 y hy).2)
    have hcut : cut 59 (traceB zs ss).toList = zs.map (fun z => (textB z ss).toList) := by rw [traceB_L]; exact cut_join 59 _ hn' (fun y hy => (ht59 y hy).1)
    rw [if_neg hne, hcut, if_neg (by rw [List.length_map]; omega)]
    have hrd : ∀ z ∈ zs, readL (nms ss) (textB z ss).toList = some z := fun z hzm => by
      obtain ⟨x, rfl, hxl⟩ := hx z hzm
      rw [textB_L x ss h8]; exact read_text hz (by rw [nms_len]; exact hxl)
    have hall := readAll_some (ns := nms ss) (ps := zs.map (fun z => (textB z ss).toList)) (fun p hp => by
      obtain ⟨z, hzm, rfl⟩ := List.mem_map.1 hp; rw [hrd z hzm]; rfl)
    rw [hall, List.map_map]
    have hid : zs.map (rd (nms ss) ∘ fun z => (textB z ss).toList) = zs := by
      conv => rhs; rw [← List.map_id zs]
      exact List.map_congr_left fun z hzm => by simp only [Function.comp, rd]; rw [hrd z hzm]; rfl
    rw [hid]; rfl

/-- PrintTrace of what ParseTrace reads is the text. -/
theorem printT_parseT {ss : List ByteArray} {s : Bytes} {u : List Int} (hz : checkE (nms ss) = 0) (h : parseTE (nms ss) s = (u, 0)) :
    (printTB u ss).1.toList = s ∧ (printTB u ss).2 = 0 ∧ ∀ z ∈ u, 0 ≤ z ∧ z < 256 := by
  have h8 := checkE_len hz
  rw [nms_len] at h8
  unfold parseTE at h
  rw [if_pos hz] at h
  split at h
  · exact absurd (show (3 : Int) = 0 from congrArg Prod.snd h) (by decide)
  · rename_i h4
    split at h
    · rename_i hs
      have hu : u = [] := (congrArg Prod.fst h).symm
      subst hu
      subst hs
      have ht : traceE ss.length ([] : List Int) = 0 := by unfold traceE; rw [if_pos (by omega), if_neg (by simp)]; rfl
      have e : (traceB [] ss).toList = [] := by rw [traceB_L]; rfl
      have e2 : (traceB [] ss).size = 0 := by rw [← tl_len, e]; rfl
      unfold printTB; rw [if_pos hz, if_pos ht, if_neg (by rw [e2]; decide)]
      exact ⟨e, rfl, fun z hz => by simp at hz⟩
    · split at h
      · exact absurd (show (110 : Int) = 0 from congrArg Prod.snd h) (by decide)
      · rename_i hne hlong
        cases hr : readAll (nms ss) (cut 59 s) with
        | none => rw [hr] at h; exact absurd (show (110 : Int) = 0 from congrArg Prod.snd h) (by decide)
        | some zs =>
          rw [hr] at h
          have hu : u = zs := (congrArg Prod.fst h).symm
          subst hu
          have hsome : ∀ p ∈ cut 59 s, (readL (nms ss) p).isSome = true := fun p hp => by
            cases hrp : readL (nms ss) p with
            | some _ => rfl
            | none => rw [readAll_none hp hrp] at hr; cases hr
          have hall := readAll_some hsome
          rw [hr] at hall
          have hu : u = (cut 59 s).map (rd (nms ss)) := Option.some.inj hall
          have hp : ∀ p ∈ cut 59 s, ∃ y : Nat, rd (nms ss) p = (y : Int) ∧ y < 2 ^ ss.length ∧ textL y (nms ss) = p := fun p hp => by
            obtain ⟨l, hl⟩ := Option.isSome_iff_exists.1 (hsome p hp)
            obtain ⟨y, hy, hyl, htx⟩ := text_read hz hl
            exact ⟨y, by unfold rd; rw [hl]; exact hy, by rw [nms_len] at hyl; exact hyl, htx⟩
          have htx : u.map (fun z => (textB z ss).toList) = cut 59 s := by
            rw [hu, List.map_map]
            conv => rhs; rw [← List.map_id (cut 59 s)]
            exact List.map_congr_left fun p hpm => by
              obtain ⟨y, hy, _, ht⟩ := hp p hpm
              simp only [Function.comp, hy, textB_L y ss h8, ht]; rfl
          have e : (traceB u ss).toList = s := by rw [traceB_L, htx, join_cut]
          have e2 : (traceB u ss).size = s.length := by rw [← tl_len, e]
          have hval : ∀ z ∈ u, ∃ y : Nat, z = (y : Int) ∧ y < 2 ^ ss.length := fun z hzm => by
            rw [hu] at hzm
            obtain ⟨p, hpm, rfl⟩ := List.mem_map.1 hzm
            obtain ⟨y, hy, hyl, _⟩ := hp p hpm
            exact ⟨y, hy, hyl⟩
          have hlen : u.length ≤ 1024 := by rw [hu, List.length_map]; omega
          have ht : traceE ss.length u = 0 := by
            unfold traceE; rw [if_pos (by omega), if_neg (by omega), if_pos]
            rw [List.all_eq_true]
            intro z hzm
            obtain ⟨y, rfl, hyl⟩ := hval z hzm
            exact lt_fits h8 hyl
          unfold printTB; rw [if_pos hz, if_pos ht, if_neg (by rw [e2]; exact h4)]
          refine ⟨e, rfl, fun z hzm => ?_⟩
          obtain ⟨y, rfl, hyl⟩ := hval z hzm
          have : 2 ^ ss.length ≤ 256 := Nat.le_trans (Nat.pow_le_pow_right (by decide) h8) (by decide)
          omega
/-- Where it is refused, and no error of the names or of the length stands in the way, it is no trace's text. -/
theorem parseT_bad {ns : List Bytes} {s : Bytes} (hz : checkE ns = 0) (h4 : s.length ≤ 4096) (h : (parseTE ns s).2 ≠ 0) : parseTE ns s = ([], 110) := by
  unfold parseTE at h ⊢
  rw [if_pos hz, if_neg (by omega)] at h ⊢
  split at h
  · exact absurd rfl h
  · rename_i hne
    rw [if_neg hne]
    split at h
    · rename_i hl; rw [if_pos hl]
    · rename_i hl; rw [if_neg hl]
      cases hr : readAll ns (cut 59 s) with
      | none => rfl
      | some zs => rw [hr] at h; exact absurd rfl h
end Go.Proofs.YtmmjihalpmahnaaDoor
