/- The law CubeCover: the cubes of some letters have just these, each once. -/
import Derived.Test.YtnaalbcbmhpfjaaWCub8
import Derived.Test.YtnaalbcbmhpfjaaWLSets
namespace Go.Proofs.Ytnaalbcbmhpfjaa
open Go.RowKit Go.Maps

theorem madeB (n : Nat) : madeCells #[.bool false] n = (List.replicate n (Value.bool false)).toArray := by
  apply Array.ext_getElem?
  intro i
  by_cases h : i < n
  · simp [madeCells, h, Nat.mod_one]
  · simp [madeCells, h]
theorem Try.infoBool : (Try.prog.info? 4).map (fun i => (i.zero, i.size, i.bytes)) = some (some (.bool false), 1, 1) := by kernel_rfl
theorem Try.makeBool (w : World) :
    (Instr.makeSlice 62 (.int .i64 256) (.int .i64 256)).run Try.prog w = .ok (.slice (some ⟨w.heap.size, 0, none⟩) 256 256) (w.alloc (.cells zb256 4)) := by
  obtain ⟨i, hi, hz0, hz1, hz2⟩ := info_parts Try.infoBool
  have := run_make (P := Try.prog) w 62 4 i (.bool false) Try.underlying62 hi hz0 .i64 .i64 256 256 (by omega) (by omega) (by rw [hz2]; omega) (by omega)
  rw [this, hz1]
  have e : (Value.bool false).cells = #[.bool false] := rfl
  rw [e, show ((256 : Int).toNat * 1) = 256 from rfl, madeB]
  rfl
theorem bsTo_snoc (fs : List Int) (z : Int) : bsTo (fs ++ [z]) (fs ++ [z]).length = (bsTo fs fs.length).set z.toNat true := by
  unfold bsTo; rw [List.take_length, List.take_length, List.foldl_append]; rfl
theorem fitsAll_snoc {n : Int} {fs : List Int} {z : Int} (h : fitsAll n fs = true) (hz : fitsB n z = true) : fitsAll n (fs ++ [z]) = true := by
  unfold fitsAll at h ⊢; rw [List.all_append, h]; simpa using hz

theorem Try.idxBool (g : Nat) (z : Int) (h0 : 0 ≤ z) (h1 : z < 256) (w : World) : (Instr.indexAt 62 (.slice (some ⟨g, 0, none⟩) 256 256) (.int .u8 z)).run Try.prog w = .ok (.pointer (some ⟨g, z.toNat, none⟩)) w := by
  obtain ⟨k, rfl⟩ := Int.eq_ofNat_of_zero_le h0
  have hk : k < 256 := by omega
  simp [Instr.indexAt, run_underlying Try.underlying62, asIntOf, sizeOf_run Try.sizeBool, hk, Result.andThen, go_sem, add_plain]
theorem getD_val {zs : List Int} (hz : ∀ z ∈ zs, 0 ≤ z ∧ z < 256) {k : Nat} (h : k < zs.length) : 0 ≤ zs.getD k 0 ∧ zs.getD k 0 < 256 := by
  have e : zs.getD k 0 = zs[k] := by simp [List.getD_eq_getElem?_getD, List.getElem?_eq_getElem h]
  rw [e]; exact hz _ (List.getElem_mem h)
theorem BRow.grown {w w' : World} {g : Nat} {t : TypeId} {bs : List Bool} {row : Option Nat} (h : BRow w g t bs) (hg : w.grownBy w' row) (hne : row ≠ some g) : BRow w' g t bs := (hg.block g h.lt (fun e => hne e.symm)).trans h

set_option maxRecDepth 100000 in
set_option maxHeartbeats 2000000 in
theorem Try.lcover_any (n : Int) (ad : Option Addr) (len cap : Nat) (zs : List Int) (a b : Nat) (w : World) (hS : IntSl Try.prog 36 .u8 w ad len cap zs) (hz : ∀ z ∈ zs, 0 ≤ z ∧ z < 256) (ha : a < 256) (hb : b < 256) (hreach : cap ≤ 140737488351232) :
    Calls Try.prog 7 #[.int .i64 n, .slice ad len cap, .agg #[.int .u8 (a : Int), .int .u8 (b : Int)]] w fun e w' => e = .returned (.bool true) ∧ Below w.heap.size w w' := by
  have hpk := fun w => Try.pick_any n w
  have hmk := Try.makeBool
  have hb0 := hS.bd
  have hb1 := hS.hcap
  unfold maxLen at hb0
  have hl0 := hS.hlen
  have hidx := fun (k : Nat) (w : World) (h : k < len) => hS.idx len k w h (Nat.le_refl _)
  go_enter Try.func7, Try.ntmps7
  go_wp2_with fail
  refine (hpk _).mono ?_
  rintro e w1 ⟨⟨N, hN9, rfl⟩, rfl⟩
  have hN : N ≤ 8 := by omega
  have hp := powN_bd (n := (N : Int)) (by omega) (by omega)
  have hpw := powN_wrap (n := (N : Int)) (by omega) (by omega)
  have HP : Hid (powN (N : Int) = 2 ^ N) := rfl
  generalize powN (N : Int) = M at *
  have hpw2 : wrap64 (2 ^ N) = (M : Int) := hpw
  clear hpw
  have hC1 := Blk.new w 24 a b
  have hbw1 := below_new w (.cells #[.int .u8 (a : Int), .int .u8 (b : Int)] 24)
  generalize w.alloc (.cells #[.int .u8 (a : Int), .int .u8 (b : Int)] 24) = w1 at *
  have hIn1 := zb_new w1 4
  have hC2 := hC1.al (.cells zb256 4)
  have hbw2 := hbw1.alloc hbw1.size (.cells zb256 4)
  have hgs : w.heap.size < w1.heap.size := hC1.lt
  have hsz2 : (w1.alloc (.cells zb256 4)).heap.size = w1.heap.size + 1 := by simp
  go_wp2
  clear hmk hpk hC1 hbw1
  generalize w1.alloc (.cells zb256 4) = w2 at *
  go_loopw [8, 9] (fun v i wr => ∃ k : Nat, k ≤ len ∧ i = .int .i64 k ∧ (∃ fs : List Int, Hid (fs.length ≤ k) ∧ Hid (∀ z ∈ fs, 0 ≤ z ∧ z < 256) ∧ Hid (fitsAll N fs = true) ∧ Hid (wr.ownsRow (w1.heap.size + 1) 22 1 v fs.length (fs.map (Value.int .u8))) ∧ BRow wr w1.heap.size 4 (bsTo fs fs.length)) ∧ Blk wr w.heap.size 24 a b ∧ w1.heap.size + 1 ≤ wr.heap.size ∧ Below w.heap.size w wr) (fun _ i _ => len - (intOf i).toNat)
  case atStart => exact ⟨0, Nat.zero_le _, rfl, ⟨[], Nat.le_refl _, fun z h => by simp at h, rfl, ⟨rfl, Or.inl ⟨rfl, rfl⟩⟩, hIn1⟩, hC2, by omega, hbw2⟩
  case round =>
    obtain ⟨k, hk, rfl, ⟨fs, HL, HV, HF, HO, hIn⟩, hC, hsw, hbw⟩ := hrel
    clear hIn1 hC2 hbw2
    by_cases hlt : k < len
    · have hSr := hS.up hbw
      have hck := hSr.cell k hlt
      have HCK : Hid (∀ w' : World, Below w.heap.size w w' → w'.cell? (adOf ad k) = some (.int .u8 (zs.getD k 0))) := fun w' h => (hS.up h).cell k hlt
      have hzk := getD_val hz (show k < zs.length by omega)
      have hfit := fits_lt hN hzk.1
      generalize zs.getD k 0 = z at *
      have hix := Try.idxBool w1.heap.size z hzk.1 hzk.2
      rw [← HP.out] at hfit
      clear hSr
      by_cases hzM : z < (M : Int)
      · have hfit2 : Hid (fitsB (N : Int) z = true) := by rw [hfit]; exact decide_eq_true hzM
        clear hfit
        go_wp2_with fail
        go_quiet (fail)
        have hbd := below_drewN (Below.refl wr.heap.size wr) nq
        have hInd := hIn.up hbd
        have hCd := hC.up hbd
        have HOd : Hid _ := owns_up HO.out hbd
        have hswd := Nat.le_trans hsw hbd.size
        have hbwd := below_step hbw hbd
        have hckd := kept_cell hck hbd
        clear hbd hIn hC HO hsw hbw hck
        generalize wr.drewN nq = wd at *
        have hfl : fs.length + 1 ≤ 140737488355328 := by have := HL.out; omega
        go_wp2_with (at_builtin; refine Try.append_let rfl _ _ rfl (w1.heap.size + 1) _ fs.length fs rfl (World.ownsRow.alloc HOd.out _) wd.heap.size z rfl (by simp [go_sem]) hfl (by simp; omega) ?_)
        intro v3 w3 hown3 hgr3
        have hrow : ∀ j, u8.ownBlock = some j → w1.heap.size + 1 ≤ j := own_ge HOd.out
        have hIn3 := (hInd.up (below_new wd (.cells #[.int .u8 z] 22))).grown hgr3 (fun e => by have := hrow _ e; omega)
        have hC3 := (hCd.al (.cells #[.int .u8 z] 22)).grown hgr3 (fun e => by have := hrow _ e; omega)
        have hsw3 : w1.heap.size + 1 ≤ w3.heap.size := by have := hgr3.size; simp at this; omega
        have hbw3 : Below w.heap.size w w3 := (hbwd.alloc hbwd.size _).grown hgr3 (by simp; have := hbwd.size; omega) (fun j e => by have := hrow j e; omega)
        have hck3 := HCK.out _ hbw3
        have HO3 : Hid _ := hown3
        clear hown3 hgr3 hrow hInd hCd HOd hswd hbwd hckd
        have hlen := bsTo_len fs fs.length
        have hcz := hIn3.cell (i := z.toNat) (by omega)
        have hfz := hIn3.fz z.toNat
        have hIn4 := hIn3.set z.toNat true
        have HFS : Hid (fitsAll (N : Int) (fs ++ [z]) = true) := fitsAll_snoc HF.out hfit2.out
        have HVS : Hid (∀ y ∈ fs ++ [z], 0 ≤ y ∧ y < 256) := fun y hy => by
          rcases List.mem_append.1 hy with h | h
          · exact HV.out y h
          · rw [List.mem_singleton.1 h]; exact hzk
        have HLS : Hid ((fs ++ [z]).length ≤ k + 1) := by show _ ≤ _; rw [List.length_append]; have := HL.out; simp; omega
        have HO4 : Hid ((w3.setCell ⟨w1.heap.size, z.toNat, none⟩ (.bool true)).ownsRow (w1.heap.size + 1) 22 1 v3 (fs ++ [z]).length ((fs ++ [z]).map (Value.int .u8))) := by
          show World.ownsRow _ _ _ _ _ _ _
          rw [List.length_append, List.map_append]
          exact owns_set HO3.out (p := ⟨w1.heap.size, z.toNat, none⟩) (by simp) (.bool true)
        rw [← bsTo_snoc] at hIn4
        have hC4 : Blk (w3.setCell ⟨w1.heap.size, z.toNat, none⟩ (.bool true)) w.heap.size 24 a b := (Below.heap_setCell _ _ _ _ (by simp; omega)).trans hC3
        have hsw4 : w1.heap.size + 1 ≤ (w3.setCell ⟨w1.heap.size, z.toNat, none⟩ (.bool true)).heap.size := by simpa using hsw3
        have hbw4 := hbw3.setCell (p := ⟨w1.heap.size, z.toNat, none⟩) (by simp; omega) (.bool true)
        clear hIn3 hC3 hsw3 hbw3 HO3 HF HV HL hfit2
        generalize fs ++ [z] = fz at *
        go_wp2
        go_roundw
        case rel => exact ⟨k + 1, by omega, by go_num, ⟨fz, HLS, HVS, HFS, HO4, hIn4⟩, hC4, hsw4, hbw4⟩
        case measure => simp [intOf]; omega
      · have hzM2 : decide (z < (M : Int)) = false := decide_eq_false hzM
        go_wp2_with fail
        go_quiet (fail)
        have hbd := below_drewN (Below.refl wr.heap.size wr) nq
        have hInd := hIn.up hbd
        have hCd := hC.up hbd
        have HOd : Hid _ := owns_up HO.out hbd
        have hswd := Nat.le_trans hsw hbd.size
        have hbwd := below_step hbw hbd
        have HLS : Hid (fs.length ≤ k + 1) := Nat.le_succ_of_le HL.out
        clear hbd hIn hC HO hsw hbw hck
        go_wp2
        go_roundw
        case rel => exact ⟨k + 1, by omega, by go_num, ⟨fs, HLS, HV, HF, HOd, hInd⟩, hCd, hswd, hbwd⟩
        case measure => simp [intOf]; omega
    · have hlk : k = len := by omega
      clear hlt
      obtain ⟨fa, fcap, rfl, hfS, _⟩ := ownsRow_intSl (P := Try.prog) (T := 36) HO.out Try.underlying36 Try.sizeLet
      have hcv := Try.Cover_any (N : Int) fa fs.length fcap fs wr hfS HV.out
      go_wp2_with fail
      refine hcv.mono ?_
      rintro e w5 ⟨hcr, hw5⟩
      have hgood : ∃ v, e = .returned (.tuple #[v, .int .i64 0]) ∧ w5.ownsRow wr.heap.size 24 2 v (coverV N fs).length (encC (coverV N fs)) := by
        rcases hcr with ⟨_, _, h⟩ | ⟨h, _⟩
        · exact h
        · exact absurd ⟨HF.out, by omega, by omega⟩ h
      obtain ⟨v5, rfl, hown5⟩ := hgood
      have HCN : Hid (∀ l, l < M → (coverV N fs).countP (fun x => hasC x l) = if (bsTo fs fs.length).getD l false then 1 else 0) := fun l hl => by
        have := coverC_count hN (innB (bsTo fs fs.length)) (l := l) (by rw [← HP.out]; exact hl)
        exact this
      have HOKc : Hid (∀ c ∈ coverV N fs, c.ok) := coverF_ok hN _ N 0 (0, 0) (by omega) ⟨by decide, by decide⟩
      have HLc : Hid ((coverV N fs).length ≤ 256) := Nat.le_trans (coverF_len _ N 0 (0, 0)) (pow_256 hN)
      obtain ⟨pa, pg, pcap, rfl, hpS, _⟩ := own_cuSl (P := Try.prog) (T := 32) hown5 Try.underlying32 Try.sizeCube HOKc.out
      have hIn5 := hIn.up hw5
      have hC5 := hC.up hw5
      have hbw5 := below_step hbw hw5
      have hln := bsTo_len fs fs.length
      have hpl := HLc.out
      generalize coverV N fs = cs at *
      generalize bsTo fs fs.length = bs at *
      have hidp := fun (j : Nat) (w : World) (h : j < cs.length) => hpS.idx cs.length j w h (Nat.le_refl _)
      have hpc := hpS.hcap
      have hpb := hpS.bd
      unfold maxLen at hpb
      have hib := fun (k : Nat) (w : World) (h : k < 256) => idx_of (P := Try.prog) (T := 62) (e := 4) Try.underlying62 Try.sizeBool (a := some ⟨w1.heap.size, 0, none⟩) (cap := 256) (n := 256) (by simp) k w h
      have had : ∀ k, adOf (some ⟨w1.heap.size, 0, none⟩) k = ⟨w1.heap.size, k, none⟩ := fun k => by simp [adOf, add_plain]
      simp only [had] at hib
      clear had hown5 hcr hcv hfS hw5 hIn hC hbw HO HF HV HL HOKc HLc
      go_wp2
      go_loopw [12] (fun i wr' => ∃ k' : Nat, k' ≤ M ∧ i = .int .i64 k' ∧ Hid (Below w5.heap.size w5 wr')) (fun i _ => M - (intOf i).toNat)
      case atStart => exact ⟨0, Nat.zero_le _, rfl, Below.refl _ _⟩
      case round =>
        obtain ⟨l, hlM, rfl, hbr⟩ := hrel
        by_cases hll : l < M
        · have HC2 : Hid _ := HCN.out l hll
          have hl256 : l < 256 := by omega
          go_wp2
          clear hpw2
          go_loopw [13, 14] (fun t i wr' => ∃ j : Nat, j ≤ cs.length ∧ i = .int .i64 j ∧ (∃ n : Nat, n ≤ 256 ∧ t = .int .i64 (n : Int) ∧ Hid (n = cntTo cs l j)) ∧ Hid (Below w5.heap.size w5 wr')) (fun _ i _ => cs.length - (intOf i).toNat)
          case atStart => exact ⟨0, Nat.zero_le _, rfl, ⟨0, by decide, rfl, rfl⟩, hbr⟩
          case round =>
            obtain ⟨j, hj, rfl, ⟨n, hn, rfl, HNC⟩, hbj⟩ := hrel
            by_cases hjl : j < cs.length
            · have hslj := hpS.up hbj.out
              have hd0 := hslj.c0 j hjl
              have hd1 := hslj.c1 j hjl
              have hokj := hslj.get_ok j
              have HC1 : Hid _ := cntTo_succ (l := l) hjl
              have HC3 : Hid _ := Nat.le_trans (cntTo_le cs l (j + 1)) hpl
              have hcv : (l : Int) % 256 = (l : Int) := by omega
              generalize cs.getD j (0, 0) = y1 at *
              obtain ⟨y10, y11⟩ := y1
              have hh := fun w => Try.has_any y10 y11 l w hokj.1 hokj.2 hl256
              generalize hasC (y10, y11) l = r at *
              go_wp2_with fail
              refine (hh _).mono ?_
              rintro e w6 ⟨rfl, hw6⟩
              cases r with
              | false =>
                have HN2 : Hid (n = cntTo cs l (j + 1)) := by have := HC1.out; simp at this; rw [this]; exact HNC.out
                go_wp2
                go_roundw
                case rel => exact ⟨j + 1, by omega, by go_num, ⟨n, hn, rfl, HN2⟩, below_step hbj.out hw6⟩
                case measure => simp [intOf]; omega
              | true =>
                have HN2 : Hid (n + 1 = cntTo cs l (j + 1)) := by have := HC1.out; simp at this; show _ = _; rw [this, HNC.out]
                have HN3 : Hid (n + 1 ≤ 256) := by rw [HN2.out]; exact HC3.out
                go_wp2
                go_roundw
                case rel => exact ⟨j + 1, by omega, by go_num, ⟨n + 1, HN3.out, by go_num, HN2⟩, below_step hbj.out hw6⟩
                case measure => simp [intOf]; omega
            · obtain rfl : j = cs.length := by omega
              have hInj := hIn5.up hbj.out
              have hcl := hInj.cell (i := l) (by omega)
              have HNX : Hid (n = if bs.getD l false then 1 else 0) := by
                rw [HNC.out, cntTo_end]; exact HC2.out
              clear HC2 HNC hInj
              generalize bs.getD l false = q at *
              cases q with
              | false =>
                obtain rfl : n = 0 := HNX.out
                go_wp2
                go_roundw
                case rel => exact ⟨l + 1, by omega, by go_num, hbj⟩
                case measure => simp [intOf]; omega
              | true =>
                obtain rfl : n = 1 := HNX.out
                go_wp2
                go_roundw
                case rel => exact ⟨l + 1, by omega, by go_num, hbj⟩
                case measure => simp [intOf]; omega
        · obtain rfl : l = M := by omega
          have hCr := hC5.up hbr.out
          have hbwr := below_step hbw5 hbr.out
          have hck := fun w => Try.check_any (N : Int) a b w ha hb
          have h00 := hCr.c0
          have h01 := hCr.c1
          by_cases h0 : errC (N : Int) (a, b) = 0
          · rw [h0] at hck
            go_wp2_with fail
            refine (hck _).mono ?_
            rintro e w6 ⟨rfl, hw6⟩
            have hC6 := hCr.up hw6
            have hbw6 := below_step hbwr hw6
            clear hw6 hCr hbwr h00 h01 hck
            have h00 := hC6.c0
            have h01 := hC6.c1
            obtain ⟨N', hNN, _, ho⟩ := errC_zero h0
            obtain rfl : N' = N := by omega
            have hlet : ∀ w, Calls Try.prog 22 #[.int .i64 (N' : Int), .agg #[.int .u8 (a : Int), .int .u8 (b : Int)]] w fun e w' => (∃ g, e = .returned (.tuple #[.slice (some ⟨g, 0, none⟩) (lenC N' (a, b)) (lenC N' (a, b)), .int .i64 0])) ∧ Below w.heap.size w w' := fun w => (Try.letters_any N' a b w ha hb).mono fun e w' ⟨h, hb'⟩ => by
              rcases h with ⟨_, g, h1, _⟩ | ⟨h1, _⟩
              · exact ⟨⟨g, h1⟩, hb'⟩
              · exact absurd h0 h1
            have hcnt := fun w => Try.count_any N' a b w ha hb
            have hpr := fun w => Try.print_any N' a b w ha hb
            have hpz : (printV N' (a, b)).size ≤ maxLen := by
              unfold printV; rw [if_pos h0]
              show (textC _ _).toArray.size ≤ _
              rw [List.size_toArray, textC_len]; unfold maxLen; omega
            have hpa := fun w => Try.parse_any N' (printV N' (a, b)) w hpz
            have hpv : parseV N' (printV N' (a, b)).toList = ((a, b), 0) := by
              unfold printV parseV; rw [if_pos h0, if_pos (by omega)]
              have : (ByteArray.mk (textC (N' : Int).toNat (a, b)).toArray).toList = textC N' (a, b) := by rw [ByteArray.toList_eq]; rfl
              rw [this, show ((N' : Int).toNat) = N' from rfl, parse_text hN ⟨ha, hb⟩ ho]
            have hev := fun w => Try.every_any N' w hN
            have hL1 : 1 ≤ lenC N' (a, b) := by
              have := (count_pow hN (a := (a, b)) ⟨ha, hb⟩ ho).2
              unfold lenC; rw [this]; exact Nat.one_le_two_pow
            have hL2 : lenC N' (a, b) ≤ 256 := Nat.le_trans (lenC_le N' (a, b)) (pow_256 hN)
            unfold PrintCR at hpr
            unfold ParseCR at hpa
            rw [hpv] at hpa
            rw [h0] at hpr hcnt
            rw [show countV N' (a, b) = (lenC N' (a, b) : Int) by unfold countV; rw [if_pos h0]; rfl] at hcnt
            clear hpv h0 ho hNN
            generalize lenC N' (a, b) = L at *
            generalize printV N' (a, b) = str at *
            go_wp2_with fail
            refine (hlet _).mono ?_
            rintro e w7 ⟨⟨gx, rfl⟩, hw7⟩
            have hC7 := hC6.up hw7
            have hbw7 := below_step hbw6 hw7
            clear hw7 hC6 hbw6 h00 h01 hlet
            go_wp2_with fail
            refine (hev _).mono ?_
            rintro e w8 ⟨⟨v8, rfl, hown8⟩, hw8⟩
            obtain ⟨ea, ecap, rfl, heS, _⟩ := ownsRow_intSl (P := Try.prog) (T := 36) hown8 Try.underlying36 Try.sizeLet
            have hC8 := hC7.up hw8
            have hbw8 := below_step hbw7 hw8
            have hdv : ∀ z ∈ downTo (2 ^ N') (2 ^ N'), 0 ≤ z ∧ z < 256 := fun z hz => by
              have h1 := downTo_val (Nat.le_refl _) z hz; have := pow_256 hN; omega
            have hcv2 := Try.Cover_any (N' : Int) ea (2 ^ N') ecap (downTo (2 ^ N') (2 ^ N')) w8 heS hdv
            clear hw8 hC7 hbw7 hown8 hdv hev
            have hcv3 : Calls Try.prog 26 #[.int .i64 (N' : Int), .slice ea (2 ^ N') ecap] w8 fun e w' => (∃ v, e = .returned (.tuple #[v, .int .i64 0]) ∧ w'.ownsRow w8.heap.size 24 2 v 1 (encC [(0, 0)])) ∧ Below w8.heap.size w8 w' := hcv2.mono fun e w' ⟨h, hb'⟩ => by
              rcases h with ⟨_, _, v, h1, h2⟩ | ⟨h1, _⟩
              · rw [show (N' : Int).toNat = N' from rfl, cover_down hN] at h2
                exact ⟨⟨v, h1, h2⟩, hb'⟩
              · exact absurd ⟨fitsAll_down hN, by omega, by omega⟩ h1
            clear hcv2 heS
            generalize 2 ^ N' = M2 at *
            go_wp2_with fail
            refine hcv3.mono ?_
            rintro e w9 ⟨⟨v9, rfl, hown9⟩, hw9⟩
            have hqk : ∀ c : Cu, c ∈ [((0, 0) : Cu)] → Cu.ok c := fun c hc => by rw [List.mem_singleton.1 hc]; exact ⟨by decide, by decide⟩
            obtain ⟨qa, qg, qcap, rfl, hqS, _⟩ := own_cuSl (P := Try.prog) (T := 32) hown9 Try.underlying32 Try.sizeCube hqk
            have hC9 := hC8.up hw9
            have hbw9 := below_step hbw8 hw9
            clear hw9 hC8 hbw8 hown9 hqk hcv3
            have h00 := hC9.c0
            have h01 := hC9.c1
            go_wp2_with fail
            refine (hpr _).mono ?_
            rintro e w10 ⟨rfl, hw10⟩
            have hC10 := hC9.up hw10
            have hqS10 := hqS.up hw10
            have hbw10 := below_step hbw9 hw10
            clear hw10 hC9 hqS hbw9 h00 h01 hpr
            go_wp2_with fail
            refine (hpa _).mono ?_
            rintro e w11 ⟨rfl, hw11⟩
            have hC11 := (hC10.up hw11).al (.cells #[.int .u8 (a : Int), .int .u8 (b : Int)] 24)
            have hD11 := Blk.new w11 24 a b
            have hqS11 := (hqS10.up hw11).up (below_new w11 (.cells #[.int .u8 (a : Int), .int .u8 (b : Int)] 24))
            have hbw11 := below_step (below_step hbw10 hw11) (below_new w11 (.cells #[.int .u8 (a : Int), .int .u8 (b : Int)] 24))
            clear hw11 hC10 hqS10 hbw10 hpa
            have h00 := hC11.c0
            have h01 := hC11.c1
            go_wp2_with fail
            refine (hcnt _).mono ?_
            rintro e w12 ⟨rfl, hw12⟩
            have hC12 := hC11.up hw12
            have hD12 := hD11.up hw12
            have hqS12 := hqS11.up hw12
            have hbw12 := below_step hbw11 hw12
            clear hw12 hC11 hD11 hqS11 hbw11 hcnt h00 h01
            have h00 := hC12.c0
            have h01 := hC12.c1
            have h10 := hD12.c0
            have h11 := hD12.c1
            have hq0 : w12.cell? ⟨qg, 0, none⟩ = some (.int .u8 0) := hqS12.c0 0 (by decide)
            have hq1 : w12.cell? ⟨qg, 1, none⟩ = some (.int .u8 0) := hqS12.c1 0 (by decide)
            have hqi : ∀ w, (Instr.indexAt 32 (.slice qa 1 qcap) (.int .i64 0)).run Try.prog w = .ok (.pointer (some ⟨qg, 0, none⟩)) w := fun w => hqS12.idx 1 0 w (by decide) (by decide)
            have he1 : ∀ w, (binOp .eql 24 (.agg #[.int .u8 0, .int .u8 0]) (.agg #[.int .u8 0, .int .u8 0])).run Try.prog w = .ok (.bool true) w := fun w => Try.eqlCube 0 0 0 0 w
            have he2 : ∀ w, (binOp .eql 24 (.agg #[.int .u8 (a : Int), .int .u8 (b : Int)]) (.agg #[.int .u8 (a : Int), .int .u8 (b : Int)])).run Try.prog w = .ok (.bool true) w := fun w => by
              have := Try.eqlCube a b a b w; rw [decide_eq_true rfl] at this; exact this
            clear hC12 hD12 hqS12
            go_wp2
            go_ret
            exact ⟨rfl, hbw12⟩
          · have hne : (errC (N : Int) (a, b) != 0) = true := by simpa using h0
            have hk1 : ∀ w, Calls Try.prog 9 #[.int .i64 0, .agg #[.int .u8 0, .int .u8 0]] w fun e w' => e = .returned (.int .i64 0) ∧ Below w.heap.size w w' := fun w => Try.check_any 0 0 0 w (by decide) (by decide)
            have hk2 : ∀ w, Calls Try.prog 9 #[.int .i64 (-1), .agg #[.int .u8 (a : Int), .int .u8 (b : Int)]] w fun e w' => e = .returned (.int .i64 2) ∧ Below w.heap.size w w' := fun w => Try.check_any (-1) a b w ha hb
            generalize errC (N : Int) (a, b) = E at *
            go_wp2_with fail
            refine (hck _).mono ?_
            rintro e w6 ⟨rfl, hw6⟩
            have hC6 := hCr.up hw6
            have hbw6 := below_step hbwr hw6
            clear hw6 hCr hbwr h00 h01 hck
            have h00 := hC6.c0
            have h01 := hC6.c1
            go_wp2_with fail
            refine (hk1 _).mono ?_
            rintro e w7 ⟨rfl, hw7⟩
            have hC7 := hC6.up hw7
            have hbw7 := below_step hbw6 hw7
            clear hw7 hC6 hbw6 h00 h01 hk1
            have h00 := hC7.c0
            have h01 := hC7.c1
            go_wp2_with fail
            refine (hk2 _).mono ?_
            rintro e w8 ⟨rfl, hw8⟩
            have hbw8 := below_step hbw7 hw8
            go_wp2
            go_ret
            exact ⟨rfl, hbw8⟩
end Go.Proofs.Ytnaalbcbmhpfjaa
