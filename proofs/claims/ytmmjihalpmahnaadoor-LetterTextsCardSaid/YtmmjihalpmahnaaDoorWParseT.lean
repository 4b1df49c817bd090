/- What Parse and ParseTrace answer. -/
import Derived.Test.YtmmjihalpmahnaaDoorWParse
namespace Go.Proofs.YtmmjihalpmahnaaDoor
open Go.RowKit Go.Maps

def parseE (ns : List Bytes) (s : Bytes) : Int × Int := if checkE ns = 0 then (match readL ns s with | some l => (l, 0) | none => (0, 110)) else (0, checkE ns)
def ParseR (p : Int × Int) (e : Ending) : Prop := e = .returned (.tuple #[.int .u8 p.1, .int .i64 p.2])

set_option maxRecDepth 100000 in
set_option maxHeartbeats 400000 in
theorem Tryd.parse_any (a : Option Addr) (len cap : Nat) (ad : Nat → Addr) (ss : List ByteArray) (s : ByteArray) (w : World) (hS : StrSl Tryd.prog 22 w a len cap ad ss) (hs : s.size ≤ maxLen) (hm : MaxOk w) :
    Calls Tryd.prog 12 #[.slice a len cap, .string s] w fun e w' => ParseR (parseE (nms ss) s.toList) e ∧ Below w.heap.size w w' := by
  have hln : (nms ss).length = len := by rw [nms_len, hS.hlen]
  by_cases hz : checkE (nms ss) = 0
  · have hpl := Tryd.places_ok a len cap ad ss w hS hz
    have h8 : len ≤ 8 := by rw [← hln]; exact checkE_len hz
    have hrd : ∀ W, W.ownsMap Tryd.prog 9 (plainElem (H := Unit) Tryd.prog 3) w.heap.size len (mapD (nms ss) len) → NDk (nms ss) len → MaxOk W → Calls Tryd.prog 37 #[.map (some w.heap.size), .string s] W fun e w' => ReadR (readL (nms ss) s.toList) e ∧ Below W.heap.size W w' :=
      fun W h1 h2 h3 => Tryd.read_any _ len (nms ss) s W h1 hln h8 h2 hs h3
    cases hr : readL (nms ss) s.toList with
    | some l =>
      have HX : Hid (parseE (nms ss) s.toList = (l, 0)) := by show _ = _; unfold parseE; rw [if_pos hz, hr]
      rw [hr] at hrd
      clear hz hr hln
      go_enter Tryd.func12, Tryd.ntmps12
      go_wp2_with fail
      refine hpl.mono ?_
      rintro e w1 ⟨rfl, hb, hown, hnd⟩
      go_wp2_with fail
      refine (hrd w1 hown hnd (hm.up hb)).mono ?_
      rintro e w2 ⟨he, hb2⟩
      unfold ReadR at he
      simp only [Option.getD_some, Option.isSome_some] at he
      subst he
      go_wp2
      go_ret2
      exact ⟨by unfold ParseR; rw [HX.out]; rfl, hb.trans (hb2.mono hb.size)⟩
    | none =>
      have HX : Hid (parseE (nms ss) s.toList = (0, 110)) := by show _ = _; unfold parseE; rw [if_pos hz, hr]
      rw [hr] at hrd
      clear hz hr hln
      go_enter Tryd.func12, Tryd.ntmps12
      go_wp2_with fail
      refine hpl.mono ?_
      rintro e w1 ⟨rfl, hb, hown, hnd⟩
      go_wp2_with fail
      refine (hrd w1 hown hnd (hm.up hb)).mono ?_
      rintro e w2 ⟨he, hb2⟩
      unfold ReadR at he
      simp only [Option.getD_none, Option.isSome_none] at he
      subst he
      go_wp2
      go_ret2
      exact ⟨by unfold ParseR; rw [HX.out]; rfl, hb.trans (hb2.mono hb.size)⟩
  · have HX : Hid (parseE (nms ss) s.toList = (0, checkE (nms ss))) := by show _ = _; unfold parseE; rw [if_neg hz]
    have hz' : (checkE (nms ss) != 0) = true := by simpa using hz
    have hpl := Tryd.places_err a len cap ad ss w hS
    clear hz hln
    go_enter Tryd.func12, Tryd.ntmps12
    go_wp2_with fail
    refine hpl.mono ?_
    rintro e w1 ⟨m, rfl, hb⟩
    go_wp2
    go_ret2
    exact ⟨by unfold ParseR; rw [HX.out]; rfl, hb⟩

/-! ### ParseTrace -/
def readAll (ns : List Bytes) : List Bytes → Option (List Int)
  | [] => some []
  | p :: r => match readL ns p, readAll ns r with
    | some l, some zs => some (l :: zs)
    | _, _ => none
def rd (ns : List Bytes) (p : Bytes) : Int := (readL ns p).getD 0
theorem readAll_some {ns : List Bytes} : ∀ {ps : List Bytes}, (∀ p ∈ ps, (readL ns p).isSome = true) → readAll ns ps = some (ps.map (rd ns))
  | [], _ => rfl
  | p :: r, h => by
    have h1 := h p (by simp)
    have h2 := readAll_some (fun q hq => h q (List.mem_cons_of_mem _ hq))
    obtain ⟨l, hl⟩ := Option.isSome_iff_exists.1 h1
    simp [readAll, h2, hl, rd]
theorem readAll_none {ns : List Bytes} : ∀ {ps : List Bytes} {p : Bytes}, p ∈ ps → readL ns p = none → readAll ns ps = none
  | q :: r, p, hp, h => by
    unfold readAll
    rcases List.mem_cons.1 hp with rfl | hp
    · rw [h]
    · rw [readAll_none hp h]; cases readL ns q <;> rfl
def ptOf : Option (List Int) → List Int × Int
  | some zs => (zs, 0)
  | none => ([], 110)
def parseTE (ns : List Bytes) (s : Bytes) : List Int × Int :=
  if checkE ns = 0 then (if 4096 < s.length then ([], 3) else if s = [] then ([], 0) else if 1024 < (cut 59 s).length then ([], 110) else ptOf (readAll ns (cut 59 s))) else ([], checkE ns)
def tTo (ns ps : List Bytes) (k : Nat) : List Int := (ps.take k).map (rd ns) ++ List.replicate (ps.length - k) 0
theorem tTo_zero (ns ps : List Bytes) : tTo ns ps 0 = List.replicate ps.length 0 := by simp [tTo]
theorem tTo_end (ns ps : List Bytes) : tTo ns ps ps.length = ps.map (rd ns) := by simp [tTo]
theorem tTo_len {ns ps : List Bytes} {k : Nat} (h : k ≤ ps.length) : (tTo ns ps k).length = ps.length := by simp [tTo]; omega
theorem tTo_set {ns ps : List Bytes} {k : Nat} {p : Bytes} (h : ps[k]? = some p) : (tTo ns ps k).set k (rd ns p) = tTo ns ps (k + 1) := by
  have hk : k < ps.length := (List.getElem?_eq_some_iff.1 h).1
  unfold tTo
  obtain ⟨d, hd⟩ : ∃ d, ps.length - k = d + 1 := ⟨ps.length - k - 1, by omega⟩
  have hd2 : ps.length - (k + 1) = d := by omega
  have e : k - ((ps.take k).map (rd ns)).length = 0 := by simp; omega
  rw [hd, hd2, List.replicate_succ, List.set_append_right _ _ (by simp; omega), e, take_snoc_bytes h]
  simp only [List.set_cons_zero, List.map_append, List.map_cons, List.map_nil, List.append_assoc, List.cons_append, List.nil_append]

def Tryd.ParseTR (p : List Int × Int) (w : World) (e : Ending) (w' : World) : Prop :=
  ∃ a, e = .returned (.tuple #[.slice a p.1.length p.1.length, .int .i64 p.2]) ∧ RowOf w' 23 a p.1 ∧ (∀ b, a.map (·.block) = some b → w.heap.size ≤ b) ∧ Below w.heap.size w w'
theorem Tryd.parseTR_nil {n : Int} {w w' : World} {p : List Int × Int} (hp : p = ([], n)) (hb : Below w.heap.size w w') : Tryd.ParseTR p w (.returned (.tuple #[.slice none 0 0, .int .i64 n])) w' := by
  subst hp; exact ⟨none, rfl, Or.inl ⟨rfl, rfl⟩, fun b hb => (by cases hb), hb⟩

set_option maxRecDepth 100000 in
set_option maxHeartbeats 1600000 in
theorem Tryd.parseT_any (a : Option Addr) (len cap : Nat) (ad : Nat → Addr) (ss : List ByteArray) (s : ByteArray) (w : World) (hS : StrSl Tryd.prog 22 w a len cap ad ss) (hs : s.size ≤ maxLen) (hm : MaxOk w) :
    Calls Tryd.prog 16 #[.slice a len cap, .string s] w fun e w' => Tryd.ParseTR (parseTE (nms ss) s.toList) w e w' := by
  have hln : (nms ss).length = len := by rw [nms_len, hS.hlen]
  have hs' := hs
  unfold maxLen at hs'
  by_cases hz : checkE (nms ss) = 0
  · have hpl := Tryd.places_ok a len cap ad ss w hS hz
    have h8 : len ≤ 8 := by rw [← hln]; exact checkE_len hz
    by_cases h4 : 4096 < s.size
    · have HX : Hid (parseTE (nms ss) s.toList = ([], 3)) := by show _ = _; unfold parseTE; rw [if_pos hz, if_pos (by rw [tl_len]; exact h4)]
      clear hz hln
      go_enter Tryd.func16, Tryd.ntmps16
      go_wp2_with fail
      refine hpl.mono ?_
      rintro e w1 ⟨rfl, hb, hown, hnd⟩
      go_wp2
      go_ret2
      exact Tryd.parseTR_nil HX.out hb
    · rcases Bool.eq_false_or_eq_true (s.toList.isEmpty) with he | he
      · have HX : Hid (parseTE (nms ss) s.toList = ([], 0)) := by show _ = _; unfold parseTE; rw [if_pos hz, if_neg (by rw [tl_len]; exact h4), if_pos (by simpa using he)]
        clear hz hln
        go_enter Tryd.func16, Tryd.ntmps16
        go_wp2_with fail
        refine hpl.mono ?_
        rintro e w1 ⟨rfl, hb, hown, hnd⟩
        go_wp2
        go_ret2
        exact Tryd.parseTR_nil HX.out hb
      · have HX : Hid (parseTE (nms ss) s.toList = if 1024 < (cut 59 s.toList).length then ([], 110) else ptOf (readAll (nms ss) (cut 59 s.toList))) := by
          show _ = _; unfold parseTE; rw [if_pos hz, if_neg (by rw [tl_len]; exact h4), if_neg (by simpa using he)]
        have HLN : Hid ((nms ss).length = len) := hln
        clear hz hln
        go_enter Tryd.func16, Tryd.ntmps16
        go_wp2_with fail
        refine hpl.mono ?_
        rintro e w1 ⟨rfl, hb, hown, hnd⟩
        have hm1 := hm.up hb
        have HND : Hid (NDk (nms ss) len) := hnd
        have HOW : Hid (w1.ownsMap Tryd.prog 9 (plainElem (H := Unit) Tryd.prog 3) w.heap.size len (mapD (nms ss) len)) := hown
        clear hnd hown hpl
        go_wp2_with fail
        refine (Tryd.split_any s 59 w1 (by omega) hm1).mono ?_
        rintro e w2 ⟨xs, hxs, rfl, hrow, hb2⟩
        have HXS : Hid (nms xs = cut 59 s.toList) := hxs
        have hxl : Hid ((nms xs).length = xs.length) := nms_len xs
        clear hxs
        by_cases hlong : 1024 < xs.length
        · have HX2 : Hid (parseTE (nms ss) s.toList = ([], 110)) := by show _ = _; rw [HX.out, ← HXS.out, if_pos (by rw [hxl.out]; exact hlong)]
          clear HX
          generalize xs.length = q at *
          go_wp2
          go_ret2
          exact Tryd.parseTR_nil HX2.out (hb.trans (hb2.mono hb.size))
        · have HX2 : Hid (parseTE (nms ss) s.toList = ptOf (readAll (nms ss) (nms xs))) := by show _ = _; rw [HX.out, ← HXS.out, if_neg (by rw [hxl.out]; exact hlong)]
          have hcx : ∀ k, k < xs.length → w2.cell? ⟨w1.heap.size, k, none⟩ = some (.string (xs.getD k ByteArray.empty)) := fun k hk => hrow.cell hk
          have hmk := fun w => Tryd.makeLet xs.length xs.length (xs.length : Int) (xs.length : Int) rfl rfl (Nat.le_refl _) (by omega) w
          have hw12 : w1.heap.size < w2.heap.size := hrow.lt
          have HB2 : Hid (Below w1.heap.size w1 w2) := hb2
          have hm2 := hm1.up hb2
          clear HX hrow hb2
          generalize hq : xs.length = q at *
          have HQ : Hid (xs.length = q) := hq
          clear hq
          go_wp2
          clear hmk
          go_loopw [37] (fun i wr => ∃ k : Nat, k ≤ q ∧ i = .int .i64 k ∧ RowAt wr 23 w2.heap.size (tTo (nms ss) (nms xs) k) ∧ Below w2.heap.size w2 wr ∧ Hid (∀ p ∈ (nms xs).take k, (readL (nms ss) p).isSome = true)) (fun i _ => q - (intOf i).toNat)
          case atStart => exact ⟨0, Nat.zero_le _, rfl, by rw [tTo_zero, hxl.out]; exact RowAt.new _ _ _, (Below.refl _ _).alloc (Nat.le_refl _) _, fun p hp => by simp at hp⟩
          case round =>
            obtain ⟨k, hk, rfl, hrw, hnx, HU⟩ := hrel
            by_cases hlt : k < q
            · have hck : wr.cell? ⟨w1.heap.size, k, none⟩ = some (.string (xs.getD k ByteArray.empty)) := cell_later hnx (hcx k hlt)
              have hgk : Hid ((nms xs)[k]? = some (xs.getD k ByteArray.empty).toList) := nms_get (by rw [HQ.out]; exact hlt)
              clear hcx
              generalize xs.getD k ByteArray.empty = z at *
              have hzs : z.size ≤ maxLen := by
                have hmem := List.mem_of_getElem? hgk.out
                rw [HXS.out] at hmem
                have := cut_mem_len hmem; rw [tl_len, tl_len] at this; unfold maxLen; omega
              have hB := HB2.out.trans (hnx.mono HB2.out.size)
              have hownr : wr.ownsMap Tryd.prog 9 (plainElem (H := Unit) Tryd.prog 3) w.heap.size len (mapD (nms ss) len) := HOW.out.kept (row := none) ⟨hB.os, hB.tape, hB.output, hB.size, fun k hk _ => hB.block k hk⟩ (by simp)
              have hrd := Tryd.read_any _ len (nms ss) z wr hownr HLN.out h8 HND.out hzs (hm2.up hnx)
              have hc2 : ∀ W, Below wr.heap.size wr W → W.cell? ⟨w2.heap.size, k, none⟩ = some (.int .u8 ((tTo (nms ss) (nms xs) k).getD k 0)) := fun W hW => (hrw.up hW).cell (by rw [tTo_len (by rw [hxl.out]; exact hk), hxl.out]; exact hlt)
              have hf2 : ∀ W, Below wr.heap.size wr W → W.frozen? ⟨w2.heap.size, k, none⟩ = false := fun W hW => (hrw.up hW).frozen k
              have hset : ∀ W, Below wr.heap.size wr W → Hid (RowAt (W.setCell ⟨w2.heap.size, k, none⟩ (.int .u8 (rd (nms ss) z.toList))) 23 w2.heap.size (tTo (nms ss) (nms xs) (k + 1))) := fun W hW => by
                have := (hrw.up hW).set k (rd (nms ss) z.toList)
                rw [tTo_set hgk.out] at this; exact this
              generalize (tTo (nms ss) (nms xs) k).getD k 0 = x0 at *
              clear hownr hB
              cases hr : readL (nms ss) z.toList with
              | some l =>
                have HN : Hid (∀ p ∈ (nms xs).take (k + 1), (readL (nms ss) p).isSome = true) := fun p hp => by
                  rw [take_snoc_bytes hgk.out] at hp
                  rcases List.mem_append.1 hp with h | h
                  · exact HU.out p h
                  · simp only [List.mem_singleton] at h; subst h; rw [hr]; rfl
                have HRD : Hid (rd (nms ss) z.toList = l) := by show _ = _; unfold rd; rw [hr]; rfl
                rw [hr] at hrd
                clear hr
                go_wp2_with fail
                refine hrd.mono ?_
                rintro e w3 ⟨he3, hb3⟩
                unfold ReadR at he3
                simp only [Option.getD_some, Option.isSome_some] at he3
                subst he3
                have q1 := hc2 w3 hb3
                have q2 := hf2 w3 hb3
                have q3 := hset w3 hb3
                rw [HRD.out] at q3
                have q4 := (hnx.trans (hb3.mono hnx.size)).setCell (p := ⟨w2.heap.size, k, none⟩) (Nat.le_refl _) (.int .u8 l)
                clear hrd hc2 hf2 hset hrw hck
                go_wp2
                go_roundw
                case rel => exact ⟨k + 1, by omega, by go_num, q3.out, q4, HN⟩
                case measure => simp [intOf]; omega
              | none =>
                have HX3 : Hid (parseTE (nms ss) s.toList = ([], 110)) := by show _ = _; rw [HX2.out, readAll_none (List.mem_of_getElem? hgk.out) hr]; rfl
                rw [hr] at hrd
                clear hr
                go_wp2_with fail
                refine hrd.mono ?_
                rintro e w3 ⟨he3, hb3⟩
                unfold ReadR at he3
                simp only [Option.getD_none, Option.isSome_none] at he3
                subst he3
                clear hrd hc2 hf2 hset hrw hck
                go_wp2
                go_ret2
                have hA := hnx.trans (hb3.mono hnx.size)
                have hBB := HB2.out.trans (hA.mono HB2.out.size)
                exact Tryd.parseTR_nil HX3.out (hb.trans (hBB.mono hb.size))
            · obtain rfl : q = k := by omega
              have hall : readAll (nms ss) (nms xs) = some ((nms xs).map (rd (nms ss))) := readAll_some (fun p hp => HU.out p (by rw [List.take_of_length_le (by rw [hxl.out]; exact Nat.le_refl _)]; exact hp))
              have HX3 : Hid (parseTE (nms ss) s.toList = ((nms xs).map (rd (nms ss)), 0)) := by show _ = _; rw [HX2.out, hall]; rfl
              have hrw2 : RowAt wr 23 w2.heap.size ((nms xs).map (rd (nms ss))) := by rw [← tTo_end, hxl.out]; exact hrw
              clear hall hrw
              go_wp2
              go_ret2
              have hBB := HB2.out.trans (hnx.mono HB2.out.size)
              refine ⟨some ⟨w2.heap.size, 0, none⟩, ?_, ?_, ?_, hb.trans (hBB.mono hb.size)⟩
              · rw [HX3.out]; simp only [List.length_map]; rw [hxl.out]; rfl
              · rw [HX3.out]; exact Or.inr ⟨_, rfl, hrw2⟩
              · intro b hbb; cases hbb; have := hb.size; show _ ≤ w2.heap.size; omega
  · have HX : Hid (parseTE (nms ss) s.toList = ([], checkE (nms ss))) := by show _ = _; unfold parseTE; rw [if_neg hz]
    have hz' : (checkE (nms ss) != 0) = true := by simpa using hz
    have hpl := Tryd.places_err a len cap ad ss w hS
    clear hz hln
    go_enter Tryd.func16, Tryd.ntmps16
    go_wp2_with fail
    refine hpl.mono ?_
    rintro e w1 ⟨m, rfl, hb⟩
    go_wp2
    go_ret2
    exact Tryd.parseTR_nil HX.out hb
end Go.Proofs.YtmmjihalpmahnaaDoor
