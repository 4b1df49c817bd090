/- The document's kernel: tok, turned, two, one, leaf, sum. -/
import Derived.Test.YtfgaieefejdkbaaKnV
import Derived.Test.YtfgaieefejdkbaaKcM
namespace Go.Proofs.Ytfgaieefejdkbaa
open Go.RowKit Go.Maps

theorem Try.rturned_any (x y : Nat) (b : Bool) (w : World) : Calls Try.prog 50 #[.int .u8 (x : Int), .int .u8 (y : Int), .bool b] w fun e w' => e = .returned (.int .u8 (tn x y b : Int)) ∧ w' = w := by
  cases b <;>
  · go_enter Try.func50, Try.ntmps50
    go_wp2
    go_ret
    exact ⟨rfl, rfl⟩
theorem Try.rtok_any (op : Nat) (w : World) : Calls Try.prog 52 #[.int .u8 (op : Int)] w fun e w' => e = .returned (.agg #[.int .u8 (op : Int), .int .u8 0]) ∧ Below w.heap.size w w' := by
  go_enter Try.func52, Try.ntmps52
  go_wp2
  refine bodyPost_ret (v := .agg #[.int .u8 (op : Int), .int .u8 0]) (by simp [results, Try.results52, go_sem]) rfl ⟨rfl, below_new _ _⟩
theorem Try.rsum_any (x y z t : Nat) (w : World) (hx : x ≤ 3000) (hy : y ≤ 3000) (hz : z ≤ 3000) (ht : t = min (x + y + z + 1) 2049) : Calls Try.prog 55 #[.int .i64 (x : Int), .int .i64 (y : Int), .int .i64 (z : Int)] w fun e w' => e = .returned (.int .i64 (t : Int)) ∧ w' = w := by
  have h1 : IntKind.i64.wrap ((x : Int) + (y : Int)) = ((x : Int) + (y : Int)) := by rw [IntKind.wrap_i64]; omega
  have h2 : IntKind.i64.wrap ((x : Int) + (y : Int) + (z : Int)) = ((x : Int) + (y : Int) + (z : Int)) := by rw [IntKind.wrap_i64]; omega
  have h3 : IntKind.i64.wrap ((x : Int) + (y : Int) + (z : Int) + 1) = ((x : Int) + (y : Int) + (z : Int) + 1) := by rw [IntKind.wrap_i64]; omega
  by_cases hm : (2049 : Int) < (x : Int) + (y : Int) + (z : Int) + 1
  · obtain rfl : t = 2049 := by omega
    clear ht
    go_enter Try.func55, Try.ntmps55
    go_wp2
    go_ret
    exact ⟨rfl, rfl⟩
  · have HT : Hid ((t : Int) = (x : Int) + (y : Int) + (z : Int) + 1) := by show _ = _; omega
    clear ht
    go_enter Try.func55, Try.ntmps55
    go_wp2
    go_ret
    exact ⟨by rw [HT.out]; rfl, rfl⟩
/-- A list of tokens of the call's own. -/
def RowR (T : List Tk) (w : World) (e : Ending) (w' : World) : Prop := ∃ a cap, e = .returned (.slice a T.length cap) ∧ TkSl w' a T.length cap T ∧ Below w.heap.size w w'
set_option maxHeartbeats 4000000 in
theorem Try.rtwo_any (a : Option Addr) (la ca : Nat) (xa : List Tk) (b : Option Addr) (lb cb : Nat) (xb : List Tk) (op : Nat) (w : World) (hA : TkSl w a la ca xa) (hB : TkSl w b lb cb xb) (hop : op < 256) (ha : la ≤ 1000000) (hb : lb ≤ 1000000) :
    Calls Try.prog 51 #[.slice a la ca, .slice b lb cb, .int .u8 (op : Int)] w (RowR (xa ++ xb ++ [(op, 0)]) w) := by
  have hla := hA.hlen
  have hlb := hB.hlen
  have htk := fun w' => Try.rtok_any op w'
  have HA : Hid _ := hA
  have HB : Hid _ := hB
  have HOK : Hid (∀ t ∈ xa ++ xb ++ [(op, 0)], t.1 < 256 ∧ t.2 < 256) := fun t ht => by
    rcases List.mem_append.1 ht with ht | ht
    · rcases List.mem_append.1 ht with ht | ht
      · exact hA.ok t ht
      · exact hB.ok t ht
    · simp at ht; subst ht; exact ⟨hop, by show 0 < 256; decide⟩
  have HLA : Hid _ := hla
  have HLB : Hid _ := hlb
  clear hA hB hla hlb
  have HO0 : Hid (w.ownsRow w.heap.size 37 2 (.slice none 0 0) ([] : List Tk).length (encT [])) := ⟨rfl, Or.inl ⟨rfl, rfl⟩⟩
  go_enter Try.func51, Try.ntmps51
  go_wp2_with (at_builtin; refine Try.append_tks rfl _ _ rfl w.heap.size _ [] xa a la ca rfl rfl HO0.out HA.out (by simp) (by have := HLA.out; omega) (Nat.le_refl _) ?_)
  intro v1 w1 ho1 hg1
  have hb1 : Below w.heap.size w w1 := (Below.refl _ _).grown hg1 (Nat.le_refl _) (fun j e => by cases e)
  have ho1 : w1.ownsRow w.heap.size 37 2 v1 xa.length (encT xa) := by simpa using ho1
  have HO1 : Hid _ := ho1
  have HG1 : Hid _ := own_ge ho1
  have HB1 : Hid _ := hb1
  have HTB : Hid _ := HB.out.up hb1
  have hz1 := hb1.size
  obtain ⟨x1, d1, rfl, _⟩ := own_pre ho1 (Nat.le_refl _)
  clear ho1 hg1 hb1
  go_wp2_with (at_builtin; refine Try.append_tks rfl _ _ rfl w.heap.size _ xa xb b lb cb rfl rfl HO1.out HTB.out (by have := HLA.out; omega) (by have := HLB.out; omega) hz1 ?_)
  intro v2 w2 ho2 hg2
  have hb2 : Below w.heap.size w w2 := HB1.out.grown hg2 hz1 HG1.out
  have ho2 : w2.ownsRow w.heap.size 37 2 v2 (xa ++ xb).length (encT (xa ++ xb)) := by rw [List.length_append]; simpa using ho2
  have HO2 : Hid _ := ho2
  have HG2 : Hid _ := own_ge ho2
  have HB2 : Hid _ := hb2
  have hz2 := hb2.size
  obtain ⟨x2, d2, rfl, _⟩ := own_pre ho2 (Nat.le_refl _)
  clear ho2 hg2 hb2 HO1 HTB HB1 hz1
  have HLL : Hid ((xa ++ xb).length ≤ 2000000) := by show _ ≤ _; rw [List.length_append]; have := HLA.out; have := HLB.out; omega
  generalize xa ++ xb = X at *
  go_wp2_with fail
  refine (htk _).mono ?_
  rintro e w3 ⟨rfl, hb3⟩
  have hb4 := below_step hb3 (below_new w3 (.cells #[.int .u8 (op : Int), .int .u8 0] 37))
  have HB3 : Hid (Below w.heap.size w (w3.alloc (.cells #[.int .u8 (op : Int), .int .u8 0] 37))) := below_step HB2.out hb4
  have HT3 : Hid (TkSl (w3.alloc (.cells #[.int .u8 (op : Int), .int .u8 0] 37)) (some ⟨w3.heap.size, 0, none⟩) 1 1 [(op, 0)]) := blk_tk (Blk.new w3 37 op 0) hop (by decide)
  have HO3 : Hid ((w3.alloc (.cells #[.int .u8 (op : Int), .int .u8 0] 37)).ownsRow w.heap.size 37 2 (.slice x2 X.length d2) X.length (encT X)) := owns_up HO2.out hb4
  have hz3 : w.heap.size ≤ (w3.alloc (.cells #[.int .u8 (op : Int), .int .u8 0] 37)).heap.size := HB3.out.size
  clear hb3 hb4 HO2 HB2
  go_wp2_with (at_builtin; refine Try.append_tks rfl _ _ rfl w.heap.size _ X [(op, 0)] (some ⟨w3.heap.size, 0, none⟩) 1 1 rfl rfl HO3.out HT3.out (by have := HLL.out; omega) (by simp) hz3 ?_)
  intro v4 w4 ho4 hg4
  have HB4 : Hid (Below w.heap.size w w4) := HB3.out.grown hg4 hz3 HG2.out
  have ho4 : w4.ownsRow w.heap.size 37 2 v4 (X ++ [(op, 0)]).length (encT (X ++ [(op, 0)])) := by rw [List.length_append]; exact ho4
  obtain ⟨a4, c4, rfl, t4, _⟩ := own_tk ho4 HOK.out
  have HT4 : Hid _ := t4
  clear ho4 hg4 t4
  generalize X ++ [(op, 0)] = Y at *
  go_wp2
  go_ret
  exact ⟨a4, c4, rfl, HT4.out, HB4.out⟩
theorem Try.rone_any (a : Option Addr) (la ca : Nat) (xa : List Tk) (op : Nat) (w : World) (hA : TkSl w a la ca xa) (hop : op < 256) (ha : la ≤ 1000000) :
    Calls Try.prog 49 #[.slice a la ca, .int .u8 (op : Int)] w (RowR (xa ++ [] ++ [(op, 0)]) w) := by
  have h := Try.rtwo_any a la ca xa none 0 0 [] op w hA TkSl.nil hop ha (by omega)
  generalize xa ++ [] ++ [(op, 0)] = Y at *
  unfold RowR at *
  clear hA ha hop
  go_enter Try.func49, Try.ntmps49
  go_wp2_with fail
  refine h.mono ?_
  rintro e w1 ⟨a1, c1, rfl, t1, b1⟩
  go_wp2
  go_ret
  exact ⟨a1, c1, rfl, t1, b1⟩
/-- Rows of tokens that are written out. -/
theorem row_tks {w : World} {cs : Array Value} {T : List Tk} (hc : cs.toList = encT T) (hok : ∀ t ∈ T, t.1 < 256 ∧ t.2 < 256) (hl : T.length ≤ 100) : TkSl (w.alloc (.cells cs 37)) (some ⟨w.heap.size, 0, none⟩) T.length T.length T := by
  have hs : cs.size = T.length * 2 := by rw [← Array.length_toList, hc, encT_len]
  have h1 : (w.alloc (.cells cs 37)).ownsRow w.heap.size 37 2 (.slice (some ⟨w.heap.size, 0, none⟩) T.length T.length) T.length (encT T) := ⟨encT_len T, Or.inr ⟨w.heap.size, T.length, cs, rfl, Nat.le_refl _, (MapKept.heap_alloc w _).1, Nat.le_refl _, by unfold maxLen; omega, hs, by rw [hc, ← encT_len T, List.take_length]⟩⟩
  obtain ⟨a, c, e, t, _⟩ := own_tk h1 hok
  injection e with e1 _ e3
  subst e1 e3
  exact t
end Go.Proofs.Ytfgaieefejdkbaa
