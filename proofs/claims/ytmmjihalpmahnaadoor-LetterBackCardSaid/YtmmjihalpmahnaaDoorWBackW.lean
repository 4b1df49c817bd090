/- The law LetterBack, walked. -/
import Derived.Test.YtmmjihalpmahnaaDoorWBack
namespace Go.Proofs.YtmmjihalpmahnaaDoor
open Go.RowKit Go.Maps

structure PrintOk (zs : List Int) (ss : List ByteArray) : Prop where
  e1 : (printTB zs ss).1 = traceB zs ss
  e2 : traceE ss.length zs = 0
  e3 : (traceB zs ss).size ≤ 4096
theorem printT_ok0 {zs : List Int} {ss : List ByteArray} (hz : checkE (nms ss) = 0) (h : (printTB zs ss).2 = 0) : PrintOk zs ss := by
  unfold printTB at h
  rw [if_pos hz] at h
  split at h
  · rename_i ht
    split at h
    · exact absurd (show (3 : Int) = 0 from h) (by decide)
    · rename_i h4
      exact ⟨by unfold printTB; rw [if_pos hz, if_pos ht, if_neg h4], ht, by omega⟩
  · rename_i ht; exact absurd h ht

theorem printT_ok {zs : List Int} {ss : List ByteArray} (hz : checkE (nms ss) = 0) (h : (printTB zs ss).2 = 0) (hv : ∀ z ∈ zs, 0 ≤ z ∧ z < 256) : (printTB zs ss).1 = traceB zs ss ∧ parseTE (nms ss) (traceB zs ss).toList = (zs, 0) ∧ (traceB zs ss).size ≤ 4096 := by
  obtain ⟨e1, e2, e3⟩ := printT_ok0 hz h
  exact ⟨e1, parseT_printT hz hv e2 e3, e3⟩
theorem parseT_len {ns : List Bytes} {s : Bytes} {u : List Int} (h : parseTE ns s = (u, 0)) : u.length ≤ 1024 := by
  unfold parseTE at h
  split at h
  · split at h
    · exact absurd (show (3 : Int) = 0 from congrArg Prod.snd h) (by decide)
    · split at h
      · have hu : u = [] := (congrArg Prod.fst h).symm
        subst hu; simp
      · split at h
        · exact absurd (show (110 : Int) = 0 from congrArg Prod.snd h) (by decide)
        · rename_i hl
          cases hr : readAll ns (cut 59 s) with
          | none => rw [hr] at h; exact absurd (show (110 : Int) = 0 from congrArg Prod.snd h) (by decide)
          | some zs =>
            rw [hr] at h
            have hu : u = zs := (congrArg Prod.fst h).symm
            subst hu
            have hsome : ∀ p ∈ cut 59 s, (readL ns p).isSome = true := fun p hp => by
              cases hrp : readL ns p with
              | some _ => rfl
              | none => rw [readAll_none hp hrp] at hr; cases hr
            have hall := readAll_some hsome
            rw [hr] at hall
            rw [Option.some.inj hall, List.length_map]; omega
  · rename_i hc
    exact absurd (show checkE ns = 0 from congrArg Prod.snd h) hc

set_option maxRecDepth 100000 in
set_option maxHeartbeats 4000000 in
theorem Tryd.lback_any (a : Option Addr) (len cap : Nat) (ss : List ByteArray) (l : Int) (ta : Option Addr) (tlen tcap : Nat) (zs : List Int) (s : ByteArray) (w : World) (hS : StrSl Tryd.prog 22 w a len cap (adOf a) ss)
    (hT : IntSl Tryd.prog 24 .u8 w ta tlen tcap zs) (hv : ∀ z ∈ zs, 0 ≤ z ∧ z < 256) (hl0 : 0 ≤ l) (hl1 : l < 256) (hs : s.size ≤ maxLen) (hm : MaxOk w) :
    Calls Tryd.prog 4 #[.slice a len cap, .int .u8 l, .slice ta tlen tcap, .string s] w fun e w' => e = .returned (.bool true) ∧ Below w.heap.size w w' := by
  have htb := hT.bd
  have htc := hT.hcap
  have hs' := hs
  unfold maxLen at htb hs'
  go_enter Tryd.func4, Tryd.ntmps4
  go_wp2_with fail
  refine (Tryd.awake_any w hm).mono ?_
  rintro e w1 ⟨rfl, hB1⟩
  go_wp2_with fail
  refine (Tryd.large_any a len cap _ ss w1 (hS.up hB1)).mono ?_
  rintro e w1' ⟨⟨b0, rfl, hb0⟩, hw⟩
  subst hw
  cases b0 with
  | true =>
    go_wp2
    go_ret
    exact ⟨rfl, hB1⟩
  | false =>
    clear hb0
    by_cases h60 : 60 < tlen
    · go_wp2
      go_ret
      exact ⟨rfl, hB1⟩
    by_cases h600 : 600 < s.size
    · go_wp2
      go_ret
      exact ⟨rfl, hB1⟩
    have hck := Tryd.check_any a len cap _ ss _ (hS.up hB1)
    by_cases hz : checkE (nms ss) = 0
    · have HZ : Hid (checkE (nms ss) = 0) := hz
      rw [hz] at hck
      clear hz
      have hpr := fun W (hW : Below w.heap.size w W) => Tryd.print_any a len cap _ ss l W (hS.up hW) hl0 hl1
      unfold PrintR at hpr
      have hSL : ss.length = len := hS.hlen
      have hPB : printB l ss = if fitsB len l then (textB l ss, 0) else (⟨#[]⟩, 2) := by unfold printB; rw [if_pos HZ.out, hSL]
      rw [hPB] at hpr
      have hft := fun W => Tryd.fits_any len l W
      have hpar : fitsB len l = true → parseE (nms ss) (textB l ss).toList = (l, 0) := fun h => parse_print HZ.out hl0 (by rw [hSL]; exact h)
      have htxs : (textB l ss).size ≤ maxLen := by
        have := textB_size (l := l) (ss := ss) (by have := checkE_len HZ.out; rw [nms_len] at this; exact this) (names_size HZ.out); unfold maxLen; omega
      have hpx := fun W (hW : Below w.heap.size w W) => Tryd.parse_any a len cap _ ss (textB l ss) W (hS.up hW) htxs (hm.up hW)
      unfold ParseR at hpx
      clear hPB hSL htxs
      go_wp2_with fail
      refine hck.mono ?_
      rintro e w2 ⟨rfl, hb2⟩
      have hB2 := hB1.trans (hb2.mono hB1.size)
      clear hck
      rcases Bool.eq_false_or_eq_true (fitsB len l) with hf | hf
      · rw [hpar hf] at hpx
        rw [hf] at hpr hft
        simp only [if_true] at hpr
        clear hpar hf
        generalize textB l ss = tx at *
        go_wp2_with fail
        refine (hpr w2 hB2).mono ?_
        rintro e w3 ⟨rfl, hb3⟩
        have hB3 := hB2.trans (hb3.mono hB2.size)
        go_wp2_with fail
        refine (hft w3).mono ?_
        rintro e w3' ⟨rfl, hw⟩
        subst hw
        go_wp2_with fail
        refine (hpx _ hB3).mono ?_
        rintro e w4 ⟨rfl, hb4⟩
        have hB4 := hB3.trans (hb4.mono hB3.size)
        clear hpr hft hpx hb2 hb3 hb4 hB3 hB2 hB1
        have hp2 := Tryd.printT_any a len cap _ ss ta tlen tcap zs w4 (hS.up hB4) (hT.up hB4) hv
        unfold PrintR at hp2
        by_cases hg : (printTB zs ss).2 = 0
        · have hgb := printT_ok HZ.out hg hv
          rw [hg] at hp2
          have hpp := hgb.2.1
          have hts : (printTB zs ss).1.size ≤ maxLen := by rw [hgb.1]; unfold maxLen; have := hgb.2.2; omega
          rw [← hgb.1] at hpp
          clear hg hgb
          generalize (printTB zs ss).1 = pt at *
          go_wp2_with fail
          refine hp2.mono ?_
          rintro e y1 ⟨rfl, hby1⟩
          clear hp2
          have hBy1 := hB4.trans (hby1.mono hB4.size)
          have hp4 := Tryd.parseT_any a len cap _ ss pt y1 (hS.up hBy1) hts (hm.up hBy1)
          rw [hpp] at hp4
          go_wp2_with fail
          refine hp4.mono ?_
          rintro e y2 ⟨aT, rfl, hTT, _, hby2⟩
          clear hp4 hpp hts
          have hBy2 := hBy1.trans (hby2.mono hBy1.size)
          have hTi := hTT.intSl (P := Tryd.prog) (T := 24) Tryd.underlying24 Tryd.sizeLet (by show zs.length ≤ _; have := hT.hlen; unfold maxLen; omega)
          have hsm := Tryd.same_any _ _ _ _ _ _ _ _ _ hTi (hT.up hBy2)
          have hzl : zs.length = tlen := hT.hlen
          rw [hzl] at hsm
          have htt : decide (zs = zs) = true := by simp
          rw [htt] at hsm
          have HZL : Hid (zs.length = tlen) := hzl
          rw [hzl]
          clear hzl hTT hTi htt
          go_wp2_with fail
          refine hsm.mono ?_
          rintro e y3 ⟨rfl, hwy3⟩
          have hby3 := drew_below hwy3
          have hBy3 := hBy2.trans (hby3.mono hBy2.size)
          clear hsm hwy3 hby3
          have hp3 := Tryd.parseT_any a len cap _ ss s y3 (hS.up hBy3) hs (hm.up hBy3)
          by_cases hq : (parseTE (nms ss) s.toList).2 = 0
          · obtain ⟨u, hu⟩ : ∃ u, parseTE (nms ss) s.toList = (u, 0) := ⟨_, Prod.ext rfl hq⟩
            have hback := printT_parseT HZ.out hu
            have hul := parseT_len hu
            rw [hu] at hp3
            clear hq hu
            go_wp2_with fail
            refine hp3.mono ?_
            rintro e v1 ⟨aU, rfl, hU, _, hbv1⟩
            clear hp3
            have hBv1 := hBy3.trans (hbv1.mono hBy3.size)
            have hU1 := hU.intSl (P := Tryd.prog) (T := 24) Tryd.underlying24 Tryd.sizeLet (by show u.length ≤ _; unfold maxLen; omega)
            have hpt := Tryd.printT_any a len cap _ ss aU u.length u.length u v1 (hS.up hBv1) hU1 hback.2.2
            obtain ⟨hb1, hb2, _⟩ := hback
            unfold PrintR at hpt
            rw [hb2] at hpt
            generalize (printTB u ss).1 = pt at *
            generalize u.length = ul at *
            have hbb : (pt.toList == s.toList) = true := by rw [hb1]; simp
            clear hb1 hb2 hU hU1
            go_wp2_with fail
            refine hpt.mono ?_
            rintro e v2 ⟨rfl, hbv2⟩
            clear hpt
            go_wp2
            go_ret
            exact ⟨rfl, hBv1.trans (hbv2.mono hBv1.size)⟩
          · have hbad := parseT_bad HZ.out (by rw [tl_len]; omega) hq
            rw [hbad] at hp3
            clear hq hbad
            go_wp2_with fail
            refine hp3.mono ?_
            rintro e v1 ⟨aU, rfl, hU, _, hbv1⟩
            clear hp3
            go_wp2
            go_ret
            exact ⟨rfl, hBy3.trans (hbv1.mono hBy3.size)⟩
        · have hg' : ((printTB zs ss).2 == 0) = false := by simpa using hg
          clear hg
          generalize (printTB zs ss).2 = pe at *
          generalize (printTB zs ss).1 = pt at *
          go_wp2_with fail
          refine hp2.mono ?_
          rintro e y1 ⟨rfl, hby1⟩
          clear hp2
          have hBy1 := hB4.trans (hby1.mono hB4.size)
          have hp3 := Tryd.parseT_any a len cap _ ss s y1 (hS.up hBy1) hs (hm.up hBy1)
          by_cases hq : (parseTE (nms ss) s.toList).2 = 0
          · obtain ⟨u, hu⟩ : ∃ u, parseTE (nms ss) s.toList = (u, 0) := ⟨_, Prod.ext rfl hq⟩
            have hback := printT_parseT HZ.out hu
            have hul := parseT_len hu
            rw [hu] at hp3
            clear hq hu
            go_wp2_with fail
            refine hp3.mono ?_
            rintro e v1 ⟨aU, rfl, hU, _, hbv1⟩
            clear hp3
            have hBv1 := hBy1.trans (hbv1.mono hBy1.size)
            have hU1 := hU.intSl (P := Tryd.prog) (T := 24) Tryd.underlying24 Tryd.sizeLet (by show u.length ≤ _; unfold maxLen; omega)
            have hpt := Tryd.printT_any a len cap _ ss aU u.length u.length u v1 (hS.up hBv1) hU1 hback.2.2
            obtain ⟨hb1, hb2, _⟩ := hback
            unfold PrintR at hpt
            rw [hb2] at hpt
            generalize (printTB u ss).1 = pt at *
            generalize u.length = ul at *
            have hbb : (pt.toList == s.toList) = true := by rw [hb1]; simp
            clear hb1 hb2 hU hU1
            go_wp2_with fail
            refine hpt.mono ?_
            rintro e v2 ⟨rfl, hbv2⟩
            clear hpt
            go_wp2
            go_ret
            exact ⟨rfl, hBv1.trans (hbv2.mono hBv1.size)⟩
          · have hbad := parseT_bad HZ.out (by rw [tl_len]; omega) hq
            rw [hbad] at hp3
            clear hq hbad
            go_wp2_with fail
            refine hp3.mono ?_
            rintro e v1 ⟨aU, rfl, hU, _, hbv1⟩
            clear hp3
            go_wp2
            go_ret
            exact ⟨rfl, hBy1.trans (hbv1.mono hBy1.size)⟩
      · rw [hf] at hpr hft
        simp only [Bool.false_eq_true, if_false] at hpr
        clear hpar hf hpx
        go_wp2_with fail
        refine (hpr w2 hB2).mono ?_
        rintro e w3 ⟨rfl, hb3⟩
        have hB3 := hB2.trans (hb3.mono hB2.size)
        go_wp2_with fail
        refine (hft w3).mono ?_
        rintro e w3' ⟨rfl, hw⟩
        subst hw
        clear hpr hft hb2 hb3 hB2 hB1
        have hp2 := Tryd.printT_any a len cap _ ss ta tlen tcap zs _ (hS.up hB3) (hT.up hB3) hv
        unfold PrintR at hp2
        by_cases hg : (printTB zs ss).2 = 0
        · have hgb := printT_ok HZ.out hg hv
          rw [hg] at hp2
          have hpp := hgb.2.1
          have hts : (printTB zs ss).1.size ≤ maxLen := by rw [hgb.1]; unfold maxLen; have := hgb.2.2; omega
          rw [← hgb.1] at hpp
          clear hg hgb
          generalize (printTB zs ss).1 = pt at *
          go_wp2_with fail
          refine hp2.mono ?_
          rintro e y1 ⟨rfl, hby1⟩
          clear hp2
          have hBy1 := hB3.trans (hby1.mono hB3.size)
          have hp4 := Tryd.parseT_any a len cap _ ss pt y1 (hS.up hBy1) hts (hm.up hBy1)
          rw [hpp] at hp4
          go_wp2_with fail
          refine hp4.mono ?_
          rintro e y2 ⟨aT, rfl, hTT, _, hby2⟩
          clear hp4 hpp hts
          have hBy2 := hBy1.trans (hby2.mono hBy1.size)
          have hTi := hTT.intSl (P := Tryd.prog) (T := 24) Tryd.underlying24 Tryd.sizeLet (by show zs.length ≤ _; have := hT.hlen; unfold maxLen; omega)
          have hsm := Tryd.same_any _ _ _ _ _ _ _ _ _ hTi (hT.up hBy2)
          have hzl : zs.length = tlen := hT.hlen
          rw [hzl] at hsm
          have htt : decide (zs = zs) = true := by simp
          rw [htt] at hsm
          have HZL : Hid (zs.length = tlen) := hzl
          rw [hzl]
          clear hzl hTT hTi htt
          go_wp2_with fail
          refine hsm.mono ?_
          rintro e y3 ⟨rfl, hwy3⟩
          have hby3 := drew_below hwy3
          have hBy3 := hBy2.trans (hby3.mono hBy2.size)
          clear hsm hwy3 hby3
          have hp3 := Tryd.parseT_any a len cap _ ss s y3 (hS.up hBy3) hs (hm.up hBy3)
          by_cases hq : (parseTE (nms ss) s.toList).2 = 0
          · obtain ⟨u, hu⟩ : ∃ u, parseTE (nms ss) s.toList = (u, 0) := ⟨_, Prod.ext rfl hq⟩
            have hback := printT_parseT HZ.out hu
            have hul := parseT_len hu
            rw [hu] at hp3
            clear hq hu
            go_wp2_with fail
            refine hp3.mono ?_
            rintro e v1 ⟨aU, rfl, hU, _, hbv1⟩
            clear hp3
            have hBv1 := hBy3.trans (hbv1.mono hBy3.size)
            have hU1 := hU.intSl (P := Tryd.prog) (T := 24) Tryd.underlying24 Tryd.sizeLet (by show u.length ≤ _; unfold maxLen; omega)
            have hpt := Tryd.printT_any a len cap _ ss aU u.length u.length u v1 (hS.up hBv1) hU1 hback.2.2
            obtain ⟨hb1, hb2, _⟩ := hback
            unfold PrintR at hpt
            rw [hb2] at hpt
            generalize (printTB u ss).1 = pt at *
            generalize u.length = ul at *
            have hbb : (pt.toList == s.toList) = true := by rw [hb1]; simp
            clear hb1 hb2 hU hU1
            go_wp2_with fail
            refine hpt.mono ?_
            rintro e v2 ⟨rfl, hbv2⟩
            clear hpt
            go_wp2
            go_ret
            exact ⟨rfl, hBv1.trans (hbv2.mono hBv1.size)⟩
          · have hbad := parseT_bad HZ.out (by rw [tl_len]; omega) hq
            rw [hbad] at hp3
            clear hq hbad
            go_wp2_with fail
            refine hp3.mono ?_
            rintro e v1 ⟨aU, rfl, hU, _, hbv1⟩
            clear hp3
            go_wp2
            go_ret
            exact ⟨rfl, hBy3.trans (hbv1.mono hBy3.size)⟩
        · have hg' : ((printTB zs ss).2 == 0) = false := by simpa using hg
          clear hg
          generalize (printTB zs ss).2 = pe at *
          generalize (printTB zs ss).1 = pt at *
          go_wp2_with fail
          refine hp2.mono ?_
          rintro e y1 ⟨rfl, hby1⟩
          clear hp2
          have hBy1 := hB3.trans (hby1.mono hB3.size)
          have hp3 := Tryd.parseT_any a len cap _ ss s y1 (hS.up hBy1) hs (hm.up hBy1)
          by_cases hq : (parseTE (nms ss) s.toList).2 = 0
          · obtain ⟨u, hu⟩ : ∃ u, parseTE (nms ss) s.toList = (u, 0) := ⟨_, Prod.ext rfl hq⟩
            have hback := printT_parseT HZ.out hu
            have hul := parseT_len hu
            rw [hu] at hp3
            clear hq hu
            go_wp2_with fail
            refine hp3.mono ?_
            rintro e v1 ⟨aU, rfl, hU, _, hbv1⟩
            clear hp3
            have hBv1 := hBy1.trans (hbv1.mono hBy1.size)
            have hU1 := hU.intSl (P := Tryd.prog) (T := 24) Tryd.underlying24 Tryd.sizeLet (by show u.length ≤ _; unfold maxLen; omega)
            have hpt := Tryd.printT_any a len cap _ ss aU u.length u.length u v1 (hS.up hBv1) hU1 hback.2.2
            obtain ⟨hb1, hb2, _⟩ := hback
            unfold PrintR at hpt
            rw [hb2] at hpt
            generalize (printTB u ss).1 = pt at *
            generalize u.length = ul at *
            have hbb : (pt.toList == s.toList) = true := by rw [hb1]; simp
            clear hb1 hb2 hU hU1
            go_wp2_with fail
            refine hpt.mono ?_
            rintro e v2 ⟨rfl, hbv2⟩
            clear hpt
            go_wp2
            go_ret
            exact ⟨rfl, hBv1.trans (hbv2.mono hBv1.size)⟩
          · have hbad := parseT_bad HZ.out (by rw [tl_len]; omega) hq
            rw [hbad] at hp3
            clear hq hbad
            go_wp2_with fail
            refine hp3.mono ?_
            rintro e v1 ⟨aU, rfl, hU, _, hbv1⟩
            clear hp3
            go_wp2
            go_ret
            exact ⟨rfl, hBy1.trans (hbv1.mono hBy1.size)⟩
    · have hz' : (checkE (nms ss) != 0) = true := by simpa using hz
      clear hz
      go_wp2_with fail
      refine hck.mono ?_
      rintro e w2 ⟨rfl, hb2⟩
      go_wp2
      go_ret
      exact ⟨rfl, hB1.trans (hb2.mono hB1.size)⟩
end Go.Proofs.YtmmjihalpmahnaaDoor
