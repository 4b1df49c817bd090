/- What Parse and ParseTrace answer: texts are cut at blanks and semicolons and read piece by piece. -/
import Derived.Test.YtmmjihalpmahnaaDoorWPrint
namespace Go.Proofs.YtmmjihalpmahnaaDoor
open Go.RowKit Go.Maps

/-- The cell of internal/bytealg.MaxLen holds a number. -/
def MaxOk (w : World) : Prop := ∃ m, w.cell? ⟨0, 0, none⟩ = some (.int .i64 m)
theorem MaxOk.up {w w' : World} (h : MaxOk w) (hb : Below w.heap.size w w') : MaxOk w' := by
  obtain ⟨m, hm⟩ := h; exact ⟨m, cell_later hb hm⟩

def SplitR (c : UInt8) (s : ByteArray) (e8 : TypeId) (w : World) (e : Ending) (w' : World) : Prop :=
  ∃ xs : List ByteArray, nms xs = cut c s.toList ∧ e = .returned (.slice (some ⟨w.heap.size, 0, none⟩) xs.length xs.length) ∧ RowS w' e8 w.heap.size xs ∧ Below w.heap.size w w'
theorem Tryd.split_any (s : ByteArray) (c : UInt8) (w : World) (hs : s.size < 4294967281) (hm : MaxOk w) :
    Calls Tryd.prog 40 #[.string s, .string ⟨#[c]⟩] w fun e w' => SplitR c s 9 w e w' := by
  obtain ⟨m, hm⟩ := hm
  have h1 : 1 ≤ (⟨#[c]⟩ : ByteArray).size := Nat.le_refl 1
  refine (Tryd.strings_Split s ⟨#[c]⟩ m w hs hm h1).mono ?_
  rintro e w' ⟨rfl, rfl⟩
  have hlen : (Lib.splitB ⟨#[c]⟩ 0 (Lib.countB s ⟨#[c]⟩) s).length = Lib.countB s ⟨#[c]⟩ + 1 := Lib.splitB_all ⟨#[c]⟩ h1 0 _ s rfl
  refine ⟨Lib.splitB ⟨#[c]⟩ 0 (Lib.countB s ⟨#[c]⟩) s, ?_, by rw [hlen], (MapKept.heap_alloc w _).1, (Below.refl _ _).alloc (Nat.le_refl _) _⟩
  have e1 : nms (Lib.splitB ⟨#[c]⟩ 0 (Lib.countB s ⟨#[c]⟩) s) = (Lib.splitB ⟨#[c]⟩ 0 (Lib.countB s ⟨#[c]⟩) s).map (·.data.toList) := by
    unfold nms; exact List.map_congr_left fun x _ => ByteArray.toList_eq x
  rw [e1, Lib.splitB_data, ByteArray.toList_eq, ← split_cut c _ s.data.toList (Nat.le_refl _)]
  rfl

theorem join_mem_len {c : UInt8} : ∀ {xs : List Bytes} {x : Bytes}, x ∈ xs → x.length ≤ (Lib.join xs [c]).length
  | y :: r, x, h => by
    rw [Lib.join_cons]
    rcases List.mem_cons.1 h with rfl | h
    · simp
    · cases r with
      | nil => simp at h
      | cons z t =>
        have := join_mem_len (c := c) h
        rw [Lib.join_cons] at this
        simp [Lib.joinTail] at this ⊢; omega
theorem cut_mem_len {c : UInt8} {s x : Bytes} (h : x ∈ cut c s) : x.length ≤ s.length := by
  have := join_mem_len (c := c) h; rwa [join_cut] at this

/-! ### read -/
def readGo (ns : List Bytes) : List Bytes → Int → Int → Option Int
  | [], _, l => some l
  | x :: r, least, l => if atI ns x < 0 ∨ atI ns x < least then none else readGo ns r (atI ns x + 1) (bits BinOp.or IntKind.u8 l (2 ^ (atI ns x).toNat % 256))
def readL (ns : List Bytes) (s : Bytes) : Option Int := if s = [45] then some 0 else if 167 < s.length then none else readGo ns (cut 32 s) 0 0
def readAt (ns : List Bytes) (ps : List Bytes) (k : Nat) (least l : Int) : Option Int := readGo ns (ps.drop k) least l
theorem readAt_end {ns ps : List Bytes} {k : Nat} {least l : Int} (h : ps.length ≤ k) : readAt ns ps k least l = some l := by unfold readAt; rw [List.drop_of_length_le h]; rfl
theorem readAt_bad {ns ps : List Bytes} {k : Nat} {least l : Int} {x : Bytes} (h : ps[k]? = some x) (hb : atI ns x < 0 ∨ atI ns x < least) : readAt ns ps k least l = none := by
  obtain ⟨hk, rfl⟩ := List.getElem?_eq_some_iff.1 h
  unfold readAt; rw [List.drop_eq_getElem_cons hk]; unfold readGo; rw [if_pos hb]
theorem readAt_next {ns ps : List Bytes} {k : Nat} {least l : Int} {x : Bytes} (h : ps[k]? = some x) (hb : ¬ (atI ns x < 0 ∨ atI ns x < least)) : readAt ns ps k least l = readAt ns ps (k + 1) (atI ns x + 1) (bits BinOp.or IntKind.u8 l (2 ^ (atI ns x).toNat % 256)) := by
  obtain ⟨hk, rfl⟩ := List.getElem?_eq_some_iff.1 h
  unfold readAt; rw [List.drop_eq_getElem_cons hk]; conv => lhs; unfold readGo
  rw [if_neg hb]

def ReadR (o : Option Int) (e : Ending) : Prop := e = .returned (.tuple #[.int .u8 (o.getD 0), .bool o.isSome])

set_option maxRecDepth 100000 in
set_option maxHeartbeats 1600000 in
theorem Tryd.read_any (B len : Nat) (ns : List Bytes) (s : ByteArray) (w : World) (hown : w.ownsMap Tryd.prog 9 (plainElem (H := Unit) Tryd.prog 3) B len (mapD ns len)) (hlen : ns.length = len) (h8 : len ≤ 8) (hnd : NDk ns len) (hs : s.size ≤ maxLen) (hm : MaxOk w) :
    Calls Tryd.prog 37 #[.map (some B), .string s] w fun e w' => ReadR (readL ns s.toList) e ∧ Below w.heap.size w w' := by
  unfold maxLen at hs
  rcases Bool.eq_false_or_eq_true (s.toList == [45]) with hd | hd
  · have HX : Hid (readL ns s.toList = some 0) := by show _ = _; unfold readL; rw [if_pos (by simpa using hd)]
    go_enter Tryd.func37, Tryd.ntmps37
    go_wp2
    go_ret2
    exact ⟨by unfold ReadR; rw [HX.out]; rfl, Below.refl _ _⟩
  · by_cases hlong : 167 < s.size
    · have HX : Hid (readL ns s.toList = none) := by show _ = _; unfold readL; rw [if_neg (by simpa using hd), if_pos (by rw [tl_len]; exact hlong)]
      go_enter Tryd.func37, Tryd.ntmps37
      go_wp2
      go_ret2
      exact ⟨by unfold ReadR; rw [HX.out]; rfl, Below.refl _ _⟩
    · have HX : Hid (readL ns s.toList = readAt ns (cut 32 s.toList) 0 0 0) := by show _ = _; unfold readL; rw [if_neg (by simpa using hd), if_neg (by rw [tl_len]; exact hlong)]; rfl
      have HL : Hid (ns.length = len) := hlen
      have HND : Hid (NDk ns len) := hnd
      have HO : Hid (w.ownsMap Tryd.prog 9 (plainElem (H := Unit) Tryd.prog 3) B len (mapD ns len)) := hown
      clear hlen hnd hown
      go_enter Tryd.func37, Tryd.ntmps37
      go_wp2_with fail
      refine (Tryd.split_any s 32 w (by omega) hm).mono ?_
      rintro e w1 ⟨xs, hxs, rfl, hrow, hb⟩
      have HXS : Hid (nms xs = cut 32 s.toList) := hxs
      have hpl : Hid (∀ x ∈ nms xs, x.length ≤ 167) := fun x hx => by rw [HXS.out] at hx; have := cut_mem_len hx; rw [tl_len] at this; omega
      have hown : w1.ownsMap Tryd.prog 9 (plainElem (H := Unit) Tryd.prog 3) B len (mapD ns len) := by
        have := HO.out; exact this.kept (row := none) ⟨hb.os, hb.tape, hb.output, hb.size, fun k hk _ => hb.block k hk⟩ (by simp)
      have hcx : ∀ k, k < xs.length → w1.cell? ⟨w.heap.size, k, none⟩ = some (.string (xs.getD k ByteArray.empty)) := fun k hk => hrow.cell hk
      have hxl : Hid ((nms xs).length = xs.length) := nms_len xs
      have hcount : xs.length ≤ 168 := by
        have e1 := hxl.out
        have : ∀ t : Bytes, (cut 32 t).length ≤ t.length + 1 := fun t => by
          induction t with
          | nil => simp [cut]
          | cons b r ih =>
            unfold cut; split
            · simp; exact ih
            · split
              · rename_i hc; rw [hc] at ih; simp at ih ⊢; omega
              · simp
        have := this s.toList
        rw [← HXS.out, e1, tl_len] at this; omega
      clear hxs hrow
      generalize hq : xs.length = q at *
      have HQ : Hid (xs.length = q) := hq
      clear hq
      go_wp2
      go_loop [6, 7, 20] (fun l m i => ∃ (k : Nat) (x y : Int), k ≤ q ∧ i = .int .i64 k ∧ l = .int .u8 x ∧ m = .int .i64 y ∧ 0 ≤ y ∧ y ≤ 8 ∧ Hid (readL ns s.toList = readAt ns (nms xs) k y x)) (fun _ _ i => q - (intOf i).toNat)
      case atStart => exact ⟨0, 0, 0, Nat.zero_le _, rfl, rfl, rfl, Int.le_refl _, by decide, by show _ = _; rw [HX.out, HXS.out]⟩
      case round =>
        obtain ⟨k, x, y, hk, rfl, rfl, rfl, hy0, hy8, HU⟩ := hrel
        by_cases hlt : k < q
        · have hck := hcx k hlt
          have hgk : Hid ((nms xs)[k]? = some (xs.getD k ByteArray.empty).toList) := nms_get (by rw [HQ.out]; exact hlt)
          clear hcx
          generalize xs.getD k ByteArray.empty = z at *
          have hsz : z.size ≤ maxLen := by
            have := hpl.out _ (List.mem_of_getElem? hgk.out); rw [tl_len] at this; unfold maxLen; omega
          have hkey := Tryd.key z hsz
          have hhas := mapD_has ns z.toList len (by rw [HL.out]; exact Nat.le_refl _)
          have HAT : Hid _ := mapD_at ns z.toList len (by rw [HL.out]; exact Nat.le_refl _) HND.out
          have HC := atI_neg ns z.toList
          have HT : ns.take len = ns := List.take_of_length_le (by rw [HL.out]; exact Nat.le_refl _)
          rw [HT] at hhas HAT
          clear HT
          rcases Bool.eq_false_or_eq_true (ns.contains z.toList) with ht | ht
          · rw [ht] at hhas HC
            have hp : 0 ≤ atI ns z.toList := by simpa using HC
            have HI : Hid (atI ns z.toList = (ns.idxOf z.toList : Int)) := by show _ = _; unfold atI; rw [if_pos ht]
            have hq2 := (atI_lt ns z.toList).2
            rw [HL.out] at hq2
            have HTT : Hid _ := ht
            clear ht HC
            by_cases hyl : atI ns z.toList < y
            · have HX2 : Hid _ := HU.out.trans (readAt_bad (l := x) hgk.out (Or.inr hyl))
              go_wp2_with (first | (at_lookup; refine wpList_lookup_own_ok_int _ rfl _ _ 53 rfl 9 3 .i64 Tryd.law Tryd.underlying53 Tryd.underlying3 (Tryd.zeroInt _) B len _ rfl hown _ _ rfl hkey ?_; intro c hat hwc; have hc : c < y := (by rw [HAT.out, if_pos HTT.out] at hat; injection hat with hat; injection hat with _ hat; rw [← hat, ← HI.out]; exact hyl); clear hat hwc) | fail)
              go_ret2
              exact ⟨by unfold ReadR; rw [HX2.out]; rfl, hb⟩
            · have HX2 : Hid _ := HU.out.trans (readAt_next (l := x) (least := y) hgk.out (by omega))
              go_wp2_with (first | (at_lookup; refine wpList_lookup_own_ok_int _ rfl _ _ 53 rfl 9 3 .i64 Tryd.law Tryd.underlying53 Tryd.underlying3 (Tryd.zeroInt _) B len _ rfl hown _ _ rfl hkey ?_; intro c hat hwc; have hc : Hid (c = atI ns z.toList) := (by rw [HAT.out, if_pos HTT.out] at hat; injection hat with hat; injection hat with _ hat; show _ = _; rw [← hat, HI.out]); have hcy : ¬ c < y := (by rw [hc.out]; exact hyl); have hc0 : 0 ≤ c := (by rw [hc.out]; exact hp); have hc8 : c < 8 := (by rw [hc.out]; omega); clear hat hwc) | fail)
              go_wp2_with (go_at_call 45; refine (Tryd.bit_any _ _ hc0 hc8).mono ?_; rintro e w' ⟨rfl, rfl⟩)
              go_round
              case rel => exact ⟨k + 1, _, _, by omega, by go_num, rfl, rfl, by omega, by omega, by have := HX2.out; rw [← hc.out] at this; exact this⟩
              case measure => simp [intOf]; omega
          · rw [ht] at hhas HC
            have HX2 : Hid _ := HU.out.trans (readAt_bad (l := x) (least := y) hgk.out (Or.inl (by simpa using HC)))
            clear ht HC
            go_wp2_with (first | (at_lookup; refine wpList_lookup_own_ok_int _ rfl _ _ 53 rfl 9 3 .i64 Tryd.law Tryd.underlying53 Tryd.underlying3 (Tryd.zeroInt _) B len _ rfl hown _ _ rfl hkey ?_; intro c hat hwc; clear hat hwc) | fail)
            go_ret2
            exact ⟨by unfold ReadR; rw [HX2.out]; rfl, hb⟩
        · have HX2 : Hid _ := HU.out.trans (readAt_end (ns := ns) (least := y) (l := x) (by rw [hxl.out]; omega))
          go_wp2
          go_ret2
          exact ⟨by unfold ReadR; rw [HX2.out]; rfl, hb⟩
end Go.Proofs.YtmmjihalpmahnaaDoor
