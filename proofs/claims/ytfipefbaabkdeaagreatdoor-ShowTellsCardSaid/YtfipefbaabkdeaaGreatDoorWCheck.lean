/- What the calls on lists of names answer: places, Check, Of of package letter and the document's at, Check, Of. -/
import Derived.Test.YtfipefbaabkdeaaGreatDoorWName
import Derived.BigQuiet
import Derived.Deep.QuietTactic
namespace Go.Proofs.YtfipefbaabkdeaaGreatDoor
open Go.RowKit Go.Maps

/-- A slice of strings as the walk reads it: nil or not, its place k lies at 'ad k'. -/
structure StrSl (P : Program) (T : TypeId) (w : World) (a : Option Addr) (len cap : Nat) (ad : Nat → Addr) (ss : List ByteArray) : Prop where
  hlen : ss.length = len
  hcap : len ≤ cap
  bd : cap ≤ maxLen
  idx : ∀ (n k : Nat) (w : World), k < n → n ≤ len → (Instr.indexAt T (.slice a n cap) (.int .i64 k)).run P w = .ok (.pointer (some (ad k))) w
  cell : ∀ k, k < len → w.cell? (ad k) = some (.string (ss.getD k ByteArray.empty))
  blk : ∀ k, k < len → (ad k).block < w.heap.size
  sz : ∀ k, (ss.getD k ByteArray.empty).size ≤ maxLen
  nn : a = none → cap = 0

theorem StrSl.later {P : Program} {T : TypeId} {w w' : World} {a : Option Addr} {len cap : Nat} {ad : Nat → Addr} {ss : List ByteArray} (h : StrSl P T w a len cap ad ss) {B : Nat} (hb : Below B w w') (hB : ∀ k, k < len → (ad k).block < B) : StrSl P T w' a len cap ad ss :=
  ⟨h.hlen, h.hcap, h.bd, h.idx, fun k hk => (hb.cell (hB k hk)).trans (h.cell k hk), fun k hk => Nat.lt_of_lt_of_le (h.blk k hk) hb.size, h.sz, h.nn⟩
theorem StrSl.up {P : Program} {T : TypeId} {w w' : World} {a : Option Addr} {len cap : Nat} {ad : Nat → Addr} {ss : List ByteArray} (h : StrSl P T w a len cap ad ss) (hb : Below w.heap.size w w') : StrSl P T w' a len cap ad ss := h.later hb h.blk
theorem StrSl.pre {P : Program} {T : TypeId} {w : World} {a : Option Addr} {len cap : Nat} {ad : Nat → Addr} {ss : List ByteArray} (h : StrSl P T w a len cap ad ss) {n : Nat} (hn : n ≤ len) : StrSl P T w a n cap ad (ss.take n) :=
  ⟨by simp [h.hlen]; omega, Nat.le_trans hn h.hcap, h.bd, fun m k w hk hm => h.idx m k w hk (by omega),
    fun k hk => by rw [h.cell k (by omega)]; simp [List.getD_eq_getElem?_getD, hk], fun k hk => h.blk k (by omega),
    fun k => by
      by_cases hk : k < n
      · have := h.sz k; simpa [List.getD_eq_getElem?_getD, List.getElem?_take, hk] using this
      · simp [List.getD_eq_getElem?_getD, List.getElem?_take, hk, maxLen, ByteArray.size_empty], h.nn⟩

/-- The names as lists of bytes. -/
def nms (ss : List ByteArray) : List Bytes := ss.map ByteArray.toList
theorem nms_get {ss : List ByteArray} {k : Nat} (h : k < ss.length) : (nms ss)[k]? = some (ss.getD k ByteArray.empty).toList := by
  simp [nms, List.getD_eq_getElem?_getD, List.getElem?_eq_getElem h]
theorem nms_len (ss : List ByteArray) : (nms ss).length = ss.length := by simp [nms]
theorem nms_take (ss : List ByteArray) (n : Nat) : nms (ss.take n) = (nms ss).take n := by simp [nms, List.map_take]

set_option maxHeartbeats 400000 in
/-- The document's 'at': the place of a name, or -1. -/
theorem Tryz.at_any (a : Option Addr) (len cap : Nat) (ad : Nat → Addr) (ss : List ByteArray) (s : ByteArray) (w : World) (hS : StrSl Tryz.prog 22 w a len cap ad ss) :
    Calls Tryz.prog 30 #[.slice a len cap, .string s] w fun e w' => e = .returned (.int .i64 (atI (nms ss) s.toList)) ∧ w' = w := by
  obtain ⟨hl, hcp, hbd, hidx, hc, _, _, _⟩ := hS
  unfold maxLen at hbd
  have hl' := nms_len ss
  have HL : Hid ((nms ss).length = len) := by rw [hl', hl]; exact rfl
  have HG : ∀ k, k < len → (nms ss)[k]? = some (ss.getD k ByteArray.empty).toList := fun k hk => nms_get (by omega)
  clear hl hl'
  have hidx' := fun (k : Nat) (w : World) (h : k < len) => hidx len k w h (Nat.le_refl _)
  clear hidx
  go_enter Tryz.func30, Tryz.ntmps30
  go_wp2
  go_loop [5] (fun i => ∃ k : Nat, k ≤ len ∧ i = .int .i64 k ∧ ((nms ss).take k).contains s.toList = false) (fun i => len - (intOf i).toNat)
  case atStart => exact ⟨0, Nat.zero_le _, rfl, by simp⟩
  case round =>
    obtain ⟨k, hk, rfl, hu⟩ := hrel
    have HU : Hid (((nms ss).take k).contains s.toList = false) := hu
    clear hu
    by_cases hlt : k < len
    · have hck := hc k hlt
      have hgk : Hid ((nms ss)[k]? = some (ss.getD k ByteArray.empty).toList) := HG k hlt
      clear HG hc
      generalize ss.getD k ByteArray.empty = x at *
      rcases Bool.eq_false_or_eq_true (x.toList == s.toList) with he | he
      · have hx : Hid (atI (nms ss) s.toList = k) := by
          have e2 : x.toList = s.toList := by simpa using he
          exact atI_hit (by rw [← e2]; exact hgk.out) HU.out
        go_wp2
        go_ret
        exact ⟨by rw [hx.out]; rfl, rfl⟩
      · have hx : Hid (((nms ss).take (k + 1)).contains s.toList = false) := by
          have e2 : ¬ x.toList = s.toList := by simpa using he
          show _ = _
          rw [take_snoc_contains hgk.out, HU.out]; simp; exact fun h => e2 h.symm
        go_wp2
        go_round
        case rel => exact ⟨k + 1, by omega, by go_num, hx.out⟩
        case measure => simp [intOf]; omega
    · have hx : Hid (atI (nms ss) s.toList = -1) := atI_miss (by have := HU.out; rwa [List.take_of_length_le (by have := HL.out; omega)] at this)
      go_wp2
      go_ret
      exact ⟨by rw [hx.out]; rfl, rfl⟩

set_option maxRecDepth 100000 in
set_option maxHeartbeats 800000 in
/-- The document's Check. -/
theorem Tryz.rcheck_any (a : Option Addr) (len cap : Nat) (ad : Nat → Addr) (ss : List ByteArray) (w : World) (hS : StrSl Tryz.prog 22 w a len cap ad ss) :
    Calls Tryz.prog 15 #[.slice a len cap] w fun e w' => e = .returned (.int .i64 (checkE (nms ss))) ∧ ∃ n, w' = w.drewN n := by
  have hb0 := hS.bd
  have hb1 := hS.hcap
  have hlen : (nms ss).length = len := by rw [nms_len, hS.hlen]
  unfold maxLen at hb0
  by_cases h8 : 8 < len
  · have hx : Hid (checkE (nms ss) = 3) := by show _ = _; unfold checkE; rw [if_pos (by omega)]
    clear hlen
    go_enter Tryz.func15, Tryz.ntmps15
    go_wp2
    go_ret
    exact ⟨by rw [hx.out]; rfl, 0, rfl⟩
  · have HX : Hid (checkE (nms ss) = chkAt (nms ss) 0) := by show _ = _; unfold checkE; rw [if_neg (by omega), chkAt_zero]
    have HL : Hid ((nms ss).length = len) := hlen
    clear hlen
    have hidx := fun (k : Nat) (w : World) (h : k < len) => hS.idx len k w h (Nat.le_refl _)
    go_enter Tryz.func15, Tryz.ntmps15
    go_wp2
    go_loopw [3] (fun i wr => ∃ k : Nat, k ≤ len ∧ i = .int .i64 k ∧ checkE (nms ss) = chkAt (nms ss) k ∧ Hid (∃ n, wr = w.drewN n)) (fun i _ => len - (intOf i).toNat)
    case atStart => exact ⟨0, Nat.zero_le _, rfl, HX.out, 0, rfl⟩
    case round =>
      obtain ⟨k, hk, rfl, hu, hwr⟩ := hrel
      have HU : Hid (checkE (nms ss) = chkAt (nms ss) k) := hu
      clear hu
      by_cases hlt : k < len
      · have hS' : StrSl Tryz.prog 22 wr a len cap ad ss := by
          obtain ⟨n, hn⟩ := hwr.out
          rw [hn]; exact hS.up (below_drewN (Below.refl _ _) n)
        have hck := hS'.cell k hlt
        have hsz := hS'.sz k
        have hgk : Hid ((nms ss)[k]? = some (ss.getD k ByteArray.empty).toList) := nms_get (by rw [hS.hlen]; omega)
        have hQ : ∀ m, StrSl Tryz.prog 22 (wr.drewN m) a k cap ad (ss.take k) := fun m => (hS'.pre hk).up (below_drewN (Below.refl _ _) m)
        generalize ss.getD k ByteArray.empty = x at *
        rcases Bool.eq_false_or_eq_true (nameL x.toList) with hn | hn
        · have HN : Hid (nameL x.toList = true) := hn
          go_wp2_with (first | (go_at_call 29; refine (Tryz.rname_any x _ hsz).mono ?_; rintro e w' ⟨rfl, rfl⟩))
          clear hn
          go_quiet ((go_at_call 30; exact Calls.quiet_of_same (Tryz.at_any a k cap ad (ss.take k) x _ (hQ _))))
          rcases Bool.eq_false_or_eq_true (((nms ss).take k).contains x.toList) with ht | ht
          · have hx : Hid (checkE (nms ss) = 5) := HU.out.trans (chkAt_there hgk.out HN.out ht)
            have hp : 0 ≤ atI (nms (ss.take k)) x.toList := by
              have := atI_neg (nms (ss.take k)) x.toList; rw [nms_take, ht] at this; rw [nms_take]; simpa using this
            clear ht
            go_wp2
            go_ret
            obtain ⟨n, hn⟩ := hwr.out
            exact ⟨by rw [hx.out]; rfl, n + nq, by rw [hn, World.drewN_drewN]⟩
          · have hx : Hid (checkE (nms ss) = chkAt (nms ss) (k + 1)) := HU.out.trans (chkAt_next hgk.out HN.out ht)
            have hp : atI (nms (ss.take k)) x.toList < 0 := by
              have := atI_neg (nms (ss.take k)) x.toList; rw [nms_take, ht] at this; rw [nms_take]; simpa using this
            clear ht
            go_wp2
            go_roundw
            case rel =>
              obtain ⟨n, hn⟩ := hwr.out
              exact ⟨k + 1, by omega, by go_num, hx.out, n + nq, by rw [hn, World.drewN_drewN]⟩
            case measure => simp [intOf]; omega
        · have hx : Hid (checkE (nms ss) = 4) := HU.out.trans (chkAt_bad hgk.out hn)
          go_wp2_with (first | (go_at_call 29; refine (Tryz.rname_any x _ hsz).mono ?_; rintro e w' ⟨rfl, rfl⟩))
          go_ret
          exact ⟨by rw [hx.out]; rfl, hwr.out⟩
      · have hx : Hid (checkE (nms ss) = 0) := by
          have := HU.out; obtain rfl : k = len := by omega
          rw [← HL.out, chkAt_end] at this; exact this
        go_wp2
        go_ret
        exact ⟨by rw [hx.out]; rfl, hwr.out⟩
/-! ### places -/
theorem run_makeMap_hint {P : Program} (t k e : TypeId) (q : IntKind) (n : Int) (w : World) (h : P.underlying t = some (.map k e)) : (Instr.makeMap t (some (.int q n))).run P w = .ok (.map (some w.heap.size)) (w.alloc (.map #[] 0)) := by
  simp [Instr.makeMap, run_underlying h, asInt, asIntOf, go_sem, newObj, Result.andThen]
  rfl
theorem Tryz.law : Keyed Tryz.prog 9 := string_keyed Tryz.underlying9
theorem Tryz.zeroInt (w : World) : (zeroValue 3).run Tryz.prog w = .ok (.int .i64 0) w := by kernel_rfl
theorem Tryz.key (s : ByteArray) (h : s.size ≤ maxLen) : keyOf Tryz.prog 9 (.string s) = some (.string s.toList) := by
  rw [ByteArray.toList_eq]; exact WideMaps.keyOf_string_mk Tryz.underlying9 h

/-- What places leaves: the error, and where there is none the map of places. -/
def Tryz.PlacesR (ns : List Bytes) (w : World) (e : Ending) (w' : World) : Prop :=
  ∃ m, e = .returned (.tuple #[m, .int .i64 (checkE ns)]) ∧ Below w.heap.size w w' ∧
    (checkE ns = 0 → m = .map (some w.heap.size) ∧ w'.ownsMap Tryz.prog 9 (plainElem (H := Unit) Tryz.prog 3) w.heap.size ns.length (mapD ns ns.length) ∧ NDk ns ns.length)

theorem mapD_succ {ns : List Bytes} {k : Nat} {s : Bytes} (h : ns[k]? = some s) : mapD ns (k + 1) = (mapD ns k).put (.string s) (.lit (.int .i64 k)) := by
  simp [mapD, List.getD_eq_getElem?_getD, h]
theorem NDk_succ {ns : List Bytes} {k : Nat} {s : Bytes} (h : NDk ns k) (hs : ns[k]? = some s) (hn : (ns.take k).contains s = false) : NDk ns (k + 1) := by
  intro j s' hj hs'
  by_cases e : j = k
  · subst e; rw [hs] at hs'; injection hs' with hs'; subst hs'; exact hn
  · exact h j s' (by omega) hs'

set_option maxRecDepth 100000 in
set_option maxHeartbeats 1000000 in
theorem Tryz.places_any (a : Option Addr) (len cap : Nat) (ad : Nat → Addr) (ss : List ByteArray) (w : World) (hS : StrSl Tryz.prog 22 w a len cap ad ss) :
    Calls Tryz.prog 39 #[.slice a len cap] w fun e w' => Tryz.PlacesR (nms ss) w e w' := by
  have hb0 := hS.bd
  have hb1 := hS.hcap
  have hlen : (nms ss).length = len := by rw [nms_len, hS.hlen]
  unfold maxLen at hb0
  by_cases h8 : 8 < len
  · have hx : Hid (checkE (nms ss) = 3) := by show _ = _; unfold checkE; rw [if_pos (by omega)]
    clear hlen
    go_enter Tryz.func39, Tryz.ntmps39
    go_wp2
    go_ret2
    exact ⟨_, by rw [hx.out]; rfl, Below.refl _ _, by rw [hx.out]; intro h; exact absurd h (by decide)⟩
  · have HX : Hid (checkE (nms ss) = chkAt (nms ss) 0) := by show _ = _; unfold checkE; rw [if_neg (by omega), chkAt_zero]
    have HL : Hid ((nms ss).length = len) := hlen
    clear hlen
    have hidx := fun (k : Nat) (w : World) (h : k < len) => hS.idx len k w h (Nat.le_refl _)
    have hmm := fun (n : Int) (w : World) => run_makeMap_hint (P := Tryz.prog) 81 9 3 .i64 n w Tryz.underlying81
    go_enter Tryz.func39, Tryz.ntmps39
    go_wp2
    go_loopw [17] (fun i wr => ∃ k : Nat, k ≤ len ∧ i = .int .i64 k ∧ Hid (checkE (nms ss) = chkAt (nms ss) k) ∧ Hid (NDk (nms ss) k) ∧ wr.ownsMap Tryz.prog 9 (plainElem (H := Unit) Tryz.prog 3) w.heap.size k (mapD (nms ss) k) ∧ Below w.heap.size w wr) (fun i _ => len - (intOf i).toNat)
    case atStart => exact ⟨0, Nat.zero_le _, rfl, HX.out, fun j _ hj => absurd hj (by omega), World.ownsMap_made _ _ _ _, (Below.refl _ _).alloc (Nat.le_refl _) _⟩
    case round =>
      obtain ⟨k, hk, rfl, HU, HND, hown, hnx⟩ := hrel
      by_cases hlt : k < len
      · have hS' := hS.up hnx
        have hck := hS'.cell k hlt
        have hsz := hS'.sz k
        have hgk : Hid ((nms ss)[k]? = some (ss.getD k ByteArray.empty).toList) := nms_get (by rw [hS.hlen]; omega)
        clear hS'
        generalize ss.getD k ByteArray.empty = x at *
        have hkey := Tryz.key x hsz
        have hhas := mapD_has (nms ss) x.toList k (by have := HL.out; omega)
        rcases Bool.eq_false_or_eq_true (nameL x.toList) with hn | hn
        · have HN : Hid (nameL x.toList = true) := hn
          rcases Bool.eq_false_or_eq_true (((nms ss).take k).contains x.toList) with ht | ht
          · have hx : Hid (checkE (nms ss) = 5) := HU.out.trans (chkAt_there hgk.out HN.out ht)
            rw [ht] at hhas
            clear ht
            go_wp2_with (first | (go_at_call 56; refine (Tryz.name_any x _ hsz).mono ?_; rintro e w' ⟨rfl, rfl⟩) | (at_lookup; refine wpList_lookup_own_ok_int _ rfl _ _ 81 rfl 9 3 .i64 Tryz.law Tryz.underlying81 Tryz.underlying3 (Tryz.zeroInt _) w.heap.size k _ rfl hown _ _ rfl hkey ?_; intro c hat hwc))
            go_ret2
            exact ⟨_, by rw [hx.out]; rfl, hnx, by rw [hx.out]; intro h; exact absurd h (by decide)⟩
          · have hx : Hid (checkE (nms ss) = chkAt (nms ss) (k + 1)) := HU.out.trans (chkAt_next hgk.out HN.out ht)
            have HT : Hid (((nms ss).take k).contains x.toList = false) := ht
            rw [ht] at hhas
            clear ht
            go_wp2_with (first | (go_at_call 56; refine (Tryz.name_any x _ hsz).mono ?_; rintro e w' ⟨rfl, rfl⟩) | (at_lookup; refine wpList_lookup_own_ok_int _ rfl _ _ 81 rfl 9 3 .i64 Tryz.law Tryz.underlying81 Tryz.underlying3 (Tryz.zeroInt _) w.heap.size k _ rfl hown _ _ rfl hkey ?_; intro c hat hwc) | (at_mapUpdate; refine wpList_mapUpdate_own _ rfl _ _ _ 81 rfl 9 3 Tryz.law Tryz.underlying81 _ w.heap.size k _ rfl hown (by unfold maxLen; omega) _ _ _ rfl rfl hkey _ [] (plainElem_int Tryz.underlying3 (WalkArith.wf_i64 (by omega))) ?_))
            intro w1 hown1 hgrow1
            have R1 := (mapD_succ hgk.out).symm ▸ hown1
            have R2 := hnx.grown hgrow1 hnx.size (fun j hj => by cases hj; exact Nat.le_refl _)
            have R3 := NDk_succ HND.out hgk.out HT.out
            clear hown1 hgrow1 hown hck hhas hat hwc
            go_wp2
            go_roundw
            case rel => exact ⟨k + 1, by omega, by go_num, hx, R3, R1, R2⟩
            case measure => simp [intOf]; omega
        · have hx : Hid (checkE (nms ss) = 4) := HU.out.trans (chkAt_bad hgk.out hn)
          go_wp2_with (first | (go_at_call 56; refine (Tryz.name_any x _ hsz).mono ?_; rintro e w' ⟨rfl, rfl⟩))
          go_ret2
          exact ⟨_, by rw [hx.out]; rfl, hnx, by rw [hx.out]; intro h; exact absurd h (by decide)⟩
      · obtain rfl : k = len := by omega
        have hx : Hid (checkE (nms ss) = 0) := by
          have := HU.out
          rw [← HL.out, chkAt_end] at this; exact this
        go_wp2
        go_ret2
        exact ⟨_, by rw [hx.out]; rfl, hnx, fun _ => ⟨rfl, by rw [HL.out]; exact hown, by rw [HL.out]; exact HND.out⟩⟩
theorem Tryz.places_ok (a : Option Addr) (len cap : Nat) (ad : Nat → Addr) (ss : List ByteArray) (w : World) (hS : StrSl Tryz.prog 22 w a len cap ad ss) (hz : checkE (nms ss) = 0) :
    Calls Tryz.prog 39 #[.slice a len cap] w fun e w' => e = .returned (.tuple #[.map (some w.heap.size), .int .i64 0]) ∧ Below w.heap.size w w' ∧
      w'.ownsMap Tryz.prog 9 (plainElem (H := Unit) Tryz.prog 3) w.heap.size len (mapD (nms ss) len) ∧ NDk (nms ss) len := by
  refine (Tryz.places_any a len cap ad ss w hS).mono ?_
  rintro e w' ⟨m, rfl, hb, hm⟩
  obtain ⟨rfl, hown, hnd⟩ := hm hz
  have hl : (nms ss).length = len := by rw [nms_len, hS.hlen]
  rw [hl] at hown hnd
  exact ⟨by rw [hz], hb, hown, hnd⟩
theorem Tryz.places_err (a : Option Addr) (len cap : Nat) (ad : Nat → Addr) (ss : List ByteArray) (w : World) (hS : StrSl Tryz.prog 22 w a len cap ad ss) :
    Calls Tryz.prog 39 #[.slice a len cap] w fun e w' => ∃ m, e = .returned (.tuple #[m, .int .i64 (checkE (nms ss))]) ∧ Below w.heap.size w w' := by
  refine (Tryz.places_any a len cap ad ss w hS).mono ?_
  rintro e w' ⟨m, rfl, hb, hm⟩
  exact ⟨m, rfl, hb⟩

theorem Tryz.check_any (a : Option Addr) (len cap : Nat) (ad : Nat → Addr) (ss : List ByteArray) (w : World) (hS : StrSl Tryz.prog 22 w a len cap ad ss) :
    Calls Tryz.prog 23 #[.slice a len cap] w fun e w' => e = .returned (.int .i64 (checkE (nms ss))) ∧ Below w.heap.size w w' := by
  go_enter Tryz.func23, Tryz.ntmps23
  go_wp2_with (go_at_call 39; refine (Tryz.places_err a len cap ad ss _ hS).mono ?_; rintro e w' ⟨m, rfl, hb⟩)
  go_ret
  exact ⟨rfl, hb⟩

/-! ### Of -/
end Go.Proofs.YtfipefbaabkdeaaGreatDoor
