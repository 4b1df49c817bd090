/- Stage 14: GuardBack. -/
import Derived.Test.YtmnkkknkmbldhaaWGb4
import Derived.Lib.QuietBelow
import Derived.BigQuiet
import Derived.Deep.RegionHeld3
namespace Go.Proofs.Ytmnkkknkmbldhaa
open Go.RowKit Go.Maps Go.Sort

set_option maxRecDepth 100000 in
set_option maxHeartbeats 8000000 in
theorem Try.gback_any (n : Int) (a : Option Addr) (len cap : Nat) (rs : List Zc) (w : World) (hR : ZzSl w a len cap rs) :
    Calls Try.prog 5 #[.int .i64 n, .slice a len cap] w fun e w' => e = .returned (.bool true) ∧ Below w.heap.size w w' := by
  have jp := Try.gpick_any n 6 w (by omega) (by omega)
  have HZ : Hid _ := hR
  have hbd := Nat.le_trans hR.hcap hR.bd
  unfold maxLen at hbd
  clear hR
  go_enter Try.func5, Try.ntmps5
  go_wp2_with fail
  refine jp.mono ?_
  rintro e w0 ⟨m, hm, rfl, hw0⟩
  obtain rfl := hw0.symm
  have j1 := Try.snew_any (m : Int) w
  clear jp
  go_wp2_with fail
  refine j1.mono ?_
  rintro e w1 ⟨hb1, ⟨hno, _⟩ | ⟨_, _, g, F, rfl, hF, hst⟩⟩
  · exact absurd hno (by omega)
  rw [Int.toNat_natCast] at hst
  have hbA := below_new w1 (.cells #[.int .i64 (m : Int), .slice none 0 0, .slice none 0 0, .slice none 0 0] 48 (0, 0))
  have HL0 : Hid (BkL w (w1.alloc (.cells #[.int .i64 (m : Int), .slice none 0 0, .slice none 0 0, .slice none 0 0] 48 (0, 0))) g m F [] [] [] (.slice none 0 0) (.slice none 0 0) 0 w1.heap.size) :=
    ⟨hst.up hbA, hF, BkG.nil m 12, rfl, ⟨⟨[], ⟨rfl, Or.inl ⟨rfl, rfl⟩⟩, fun i l hl => by simp at hl⟩, ⟨rfl, Or.inl ⟨rfl, rfl⟩⟩, (MapKept.heap_alloc w1 _).1, hb1.size, below_step hb1 hbA⟩⟩
  have hm5 : m ≤ 5 := by omega
  have hmin : min m 64 = m := by omega
  have hsh := shl_one m (by omega)
  have hM : 2 ^ m ≤ 32 := Nat.pow_le_pow_right (n := 2) (by decide) hm5
  have hM1 : 1 ≤ 2 ^ m := Nat.one_le_two_pow
  clear j1 hb1 hF hst hbA hm
  go_wp2
  generalize w1.heap.size = aub at *
  go_loopw [7, 8, 10] (fun kv rv i wr => ∃ k : Nat, k ≤ len ∧ k ≤ 12 ∧ i = .int .i64 (k : Int) ∧ ∃ (F1 : Nat → Prop) (N : List Gd) (K : List (List Nat)) (R : List Int), Hid (BkL w wr g m F1 N K R kv rv k aub)) (fun _ _ i _ => 12 - (intOf i).toNat)
  case atStart => exact ⟨0, Nat.zero_le _, by omega, rfl, F, [], [], [], HL0⟩
  case round =>
    obtain ⟨k, hk, hk12, rfl, F1, N, K, R, HL⟩ := hrel
    clear HL0
    by_cases hgo : k < len ∧ k < 12
    · obtain ⟨hkl, hk1⟩ := hgo
      have d1 : decide ((k : Int) < (len : Int)) = true := by simp; omega
      have d2 : decide ((k : Int) < 12) = true := by simp; omega
      obtain ⟨gi, oi, si, r, hrk, hix, hce, hZS, hI⟩ := (HZ.out.up HL.out.mem.bel).at k hkl
      obtain ⟨ra, rl, rc, zs⟩ := r
      dsimp only at hce hZS hI
      have hrb := Nat.le_trans hZS.hcap hZS.bd
      unfold maxLen at hrb
      have HZS : Hid _ := hZS
      have HCE : Hid _ := hce
      obtain ⟨vs, hvs, hrow⟩ := HL.out.mem.rows
      have HVS : Hid _ := hvs
      have HROW : Hid _ := hrow
      obtain ⟨ka, kc, hkv⟩ := own_slZ hvs
      obtain ⟨ra2, rc2, hrv⟩ := own_slZ HL.out.mem.refs
      subst hkv
      subst hrv
      clear hrk hI hZS hce hvs hrow
      generalize hMM : 2 ^ m = M at *
      have HMM : Hid _ := hMM
      clear hMM
      generalize hw9 : wr = w9 at *
      have HO0 : Hid (w9.ownsRow w9.heap.size 3 1 (.slice none 0 0) 0 (lzV [])) := ⟨rfl, Or.inl ⟨rfl, rfl⟩⟩
      subst hw9
      go_wp2
      generalize hw9 : wr = w9 at *
      clear hw9
      go_loopw [11, 12] (fun lv i wx => ∃ (j : Nat) (l : List Nat), j ≤ M ∧ i = .int .i64 (j : Int) ∧ Hid (l.length = j) ∧ Hid (∀ v ∈ l, v < 12) ∧ Hid (wx.ownsRow w9.heap.size 3 1 lv j (lzV l)) ∧ Hid (Below w9.heap.size w9 wx)) (fun _ i _ => M - (intOf i).toNat)
      case atStart => exact ⟨0, [], Nat.zero_le _, rfl, rfl, fun v hv => by simp at hv, HO0, Below.refl _ _⟩
      case round =>
        obtain ⟨j, l, hj, rfl, HLJ, H12, HO, HB⟩ := hrel
        clear HO0
        by_cases hlt : j < M
        · have hce := kept_cell HCE.out HB.out
          obtain ⟨va, vc, hva⟩ := own_slZ HO.out
          subst hva
          have HS : Hid (∀ p : Nat, (wr.alloc (.cells #[.int .i64 (p : Int)] 3)).ownsRow w9.heap.size 3 1 (.slice va j vc) j ((l.map Int.ofNat).map (Value.int .i64)) ∧ (wr.alloc (.cells #[.int .i64 (p : Int)] 3)).cell? ⟨wr.heap.size, 0, none⟩ = some (.int .i64 (p : Int)) ∧ Below w9.heap.size w9 (wr.alloc (.cells #[.int .i64 (p : Int)] 3)) ∧ w9.heap.size ≤ (wr.alloc (.cells #[.int .i64 (p : Int)] 3)).heap.size) := fun p =>
            ⟨World.ownsRow.alloc HO.out _, cell_row (MapKept.heap_alloc wr _).1 0, HB.out.alloc HB.out.size _, (HB.out.alloc HB.out.size _).size⟩
          have HGE : Hid (∀ q, (Value.slice va j vc).ownBlock = some q → w9.heap.size ≤ q) := own_ge HO.out
          have HZC : Hid (j < rl → (∀ w', (Instr.indexAt 30 (.slice ra rl rc) (.int .i64 (j : Int))).run Try.prog w' = .ok (.pointer (some (adOf ra j))) w') ∧ wr.cell? (adOf ra j) = some (.int .i64 (zs.getD j 0))) := fun h => ⟨fun w' => HZS.out.idx rl j w' h (Nat.le_refl _), (HZS.out.up HB.out).cell j h⟩
          clear HO HB
          by_cases hjl : j < rl
          · obtain ⟨hix2, hce2⟩ := HZC.out hjl
            have d3 : decide ((j : Int) < (rl : Int)) = true := by simp; omega
            have jp : Calls Try.prog 26 #[.int .i64 (zs.getD j 0), .int .i64 12] wr fun e w' => ∃ i : Nat, i < 12 ∧ e = .returned (.int .i64 (i : Int)) ∧ w' = wr := Try.gpick_any (zs.getD j 0) 12 wr (by omega) (by omega)
            generalize zs.getD j 0 = z at *
            generalize adOf ra j = ad at *
            obtain ⟨gz, oz, sz⟩ := ad
            clear HZC
            go_wp2_with (first
              | (go_at_call 26; (with_reducible refine jp.mono ?_); rintro e w' ⟨p, hp, rfl, hw1⟩; obtain rfl := hw1.symm; have hSp := HS.out p; have HSP : Hid _ := hSp; have hsz := hSp.2.2.2; clear hSp)
              | (revert hsz; intro hsz; at_builtin; refine Try.append_z rfl _ _ rfl w9.heap.size _ j (l.map Int.ofNat) rfl HSP.out.1 wr.heap.size (p : Int) rfl HSP.out.2.1 (by omega) hsz ?_)
              | fail)
            intro v7 w7 hown7 hgr7
            have HO7 : Hid (w7.ownsRow w9.heap.size 3 1 v7 (j + 1) (lzV (l ++ [p]))) := by show World.ownsRow _ _ _ _ _ _ _; simpa using hown7
            have HW7 : Hid (Below w9.heap.size w9 w7) := HSP.out.2.2.1.grown hgr7 hsz (fun q e => HGE.out q e)
            have H127 : Hid (∀ v ∈ l ++ [p], v < 12) := fun v hv => by
              rcases List.mem_append.1 hv with h | h
              · exact H12.out v h
              · simp at h; omega
            have HL7 : Hid ((l ++ [p]).length = j + 1) := by show _ = _; rw [List.length_append, HLJ.out]; rfl
            clear hown7 hgr7 HS HSP HGE hsz
            go_wp2
            go_roundw
            case rel => exact ⟨j + 1, l ++ [p], by omega, by go_num, HL7, H127, HO7, HW7⟩
            case measure => simp [intOf]; omega
          · have d3 : decide ((j : Int) < (rl : Int)) = false := by simp; omega
            have jp : Calls Try.prog 26 #[.int .i64 (j : Int), .int .i64 12] wr fun e w' => ∃ i : Nat, i < 12 ∧ e = .returned (.int .i64 (i : Int)) ∧ w' = wr := Try.gpick_any (j : Int) 12 wr (by omega) (by omega)
            clear HZC
            go_wp2_with (first
              | (go_at_call 26; (with_reducible refine jp.mono ?_); rintro e w' ⟨p, hp, rfl, hw1⟩; obtain rfl := hw1.symm; have hSp := HS.out p; have HSP : Hid _ := hSp; have hsz := hSp.2.2.2; clear hSp)
              | (revert hsz; intro hsz; at_builtin; refine Try.append_z rfl _ _ rfl w9.heap.size _ j (l.map Int.ofNat) rfl HSP.out.1 wr.heap.size (p : Int) rfl HSP.out.2.1 (by omega) hsz ?_)
              | fail)
            intro v7 w7 hown7 hgr7
            have HO7 : Hid (w7.ownsRow w9.heap.size 3 1 v7 (j + 1) (lzV (l ++ [p]))) := by show World.ownsRow _ _ _ _ _ _ _; simpa using hown7
            have HW7 : Hid (Below w9.heap.size w9 w7) := HSP.out.2.2.1.grown hgr7 hsz (fun q e => HGE.out q e)
            have H127 : Hid (∀ v ∈ l ++ [p], v < 12) := fun v hv => by
              rcases List.mem_append.1 hv with h | h
              · exact H12.out v h
              · simp at h; omega
            have HL7 : Hid ((l ++ [p]).length = j + 1) := by show _ = _; rw [List.length_append, HLJ.out]; rfl
            clear hown7 hgr7 HS HSP HGE hsz
            go_wp2
            go_roundw
            case rel => exact ⟨j + 1, l ++ [p], by omega, by go_num, HL7, H127, HO7, HW7⟩
            case measure => simp [intOf]; omega
        · obtain rfl : j = M := by omega
          obtain ⟨lb, lc, hlv⟩ : ∃ lb lc, u11 = .slice (some ⟨lb, 0, none⟩) j lc := by
            rcases HO.out.2 with ⟨_, e⟩ | ⟨g', cap', cur, e, _⟩
            · omega
            · exact ⟨g', cap', e⟩
          subst hlv
          have hLs := (ownZ_sl (T := 30) HO.out Try.underlying30 Try.sizeInt)
          obtain ⟨_, _, e1, hLS, hLb, _⟩ := hLs
          injection e1 with e1a _ e1b
          subst e1a e1b
          have hl2 : l.length = 2 ^ m := by rw [HMM.out]; exact HLJ.out
          have hfew := HL.out.few hm5 hk12
          rcases ead : adM m 0 (fnL l) N with ⟨ref, N'⟩
          have hbk := HL.out.bk.add (by omega) hl2 H12.out ead
          have hpr := (ad_pre m 0 (fnL l) N).2
          rw [ead] at hpr
          dsimp only at hpr
          have hN' : N'.length ≤ 4096 := by have := HMM.out; omega
          have jA := Try.sAdd_any g m (by omega) (l.map Int.ofNat) (some ⟨lb, 0, none⟩) j lc N F1 wr hLS (fun y hy hf => by have := HL.out.st.lt _ hf; have := hLb y hy; omega) (HL.out.st.up HB.out) (by omega)
          rw [addG_small hl2 H12.out ead hN'] at jA
          have HBK : Hid _ := hbk
          have hge : w9.heap.size ≤ lb := by have := hLb 0 (by omega); simpa [adOf, add_plain] using this
          have HGE : Hid _ := hge
          clear hbk hpr hLS hLb hfew hge ead
          go_wp2_with fail
          refine jA.mono ?_
          rintro e w2 ⟨rfl, F2, hs2, hf2⟩
          dsimp only at hs2 ⊢
          have hM2 := (HL.out.mem.up HB.out).fr (HL.out.st.up HB.out) hf2 HL.out.nf
          have ho2 := hf2.own HO.out ((HL.out.st.up HB.out).notOwn HO.out (by decide) (by decide))
          have hrn : (Value.slice ra2 k rc2).ownBlock ≠ some lb := fun e => by have := (HL.out.mem.refs.lt _ e).2; have := HGE.out; omega
          obtain ⟨vs2, hvs2, hrow2⟩ := hM2.rows
          have ej : 2 ^ m = j := HMM.out
          have ho2' : w2.ownsRow w.heap.size 3 1 (.slice (some ⟨lb, 0, none⟩) (2 ^ m) lc) (2 ^ m) (lzV l) := by rw [ej]; exact owns_base ho2 HL.out.mem.bel.size
          have HSA : Hid ((w2.alloc (.cells #[.slice (some ⟨lb, 0, none⟩) j lc] 30)).ownsRow w.heap.size 30 1 (.slice ka k kc) k vs2 ∧ (w2.alloc (.cells #[.slice (some ⟨lb, 0, none⟩) j lc] 30)).cell? ⟨w2.heap.size, 0, none⟩ = some (.slice (some ⟨lb, 0, none⟩) j lc)) := ⟨World.ownsRow.alloc hvs2 _, cell_row (MapKept.heap_alloc w2 _).1 0⟩
          have hszA : w.heap.size ≤ (w2.alloc (.cells #[.slice (some ⟨lb, 0, none⟩) j lc] 30)).heap.size := (hM2.up (below_new w2 _)).bel.size
          have HNX : Hid (∀ w3, (w2.alloc (.cells #[.slice (some ⟨lb, 0, none⟩) j lc] 30)).grownBy w3 (Value.slice ka k kc).ownBlock → _) := fun w3 hg => BkR.kept hM2 hs2 HL.out.kl ho2' hrn hvs2 hrow2 (.cells #[.slice (some ⟨lb, 0, none⟩) j lc] 30) hg
          have HNF : Hid (∀ b, F2 b → w.heap.size ≤ b) := hf2.ge HL.out.nf (HL.out.mem.up HB.out).bel.size
          have HKL : Hid (K.length = k) := HL.out.kl
          have HAUL : Hid (w.heap.size ≤ aub) := HL.out.mem.aul
          clear hM2 ho2 ho2' hrn hvs2 hrow2 hs2 hf2 HL HB HO HLJ H12 HVS HROW HZS HCE jA hl2 hN' HGE
          go_wp2_with (at_builtin; refine Try.append_zz rfl _ _ rfl w.heap.size _ k vs2 rfl HSA.out.1 w2.heap.size (some ⟨lb, 0, none⟩) j lc rfl HSA.out.2 (by omega) hszA ?_)
          intro kv3 w3 hown3 hgr3
          obtain ⟨n1, n2, n3, n4, n5⟩ := HNX.out w3 hgr3
          rw [ej] at n5
          obtain ⟨ka3, kc3, hkv3⟩ := own_slZ hown3
          subst hkv3
          have HSB : Hid ((w3.alloc (.cells #[.int .i64 ref] 3)).ownsRow w.heap.size 3 1 (.slice ra2 k rc2) k (R.map (Value.int .i64)) ∧ (w3.alloc (.cells #[.int .i64 ref] 3)).cell? ⟨w3.heap.size, 0, none⟩ = some (.int .i64 ref)) := ⟨World.ownsRow.alloc n2 _, cell_row (MapKept.heap_alloc w3 _).1 0⟩
          have hszB : w.heap.size ≤ (w3.alloc (.cells #[.int .i64 ref] 3)).heap.size := (below_step n4 (below_new w3 _)).size
          have HNY : Hid (∀ g7 c7 w4, w4.ownsRow w.heap.size 3 1 (.slice (some ⟨g7, 0, none⟩) (k + 1) c7) (k + 1) ((R ++ [ref]).map (Value.int .i64)) → (w3.alloc (.cells #[.int .i64 ref] 3)).grownBy w4 (Value.slice ra2 k rc2).ownBlock → ((Value.slice ra2 k rc2).ownBlock = some g7 ∨ g7 = (w3.alloc (.cells #[.int .i64 ref] 3)).heap.size) → StG w4 F2 g m N' ∧ BkR w w4 m (K ++ [l]) (R ++ [ref]) (.slice ka3 (k + 1) kc3) (.slice (some ⟨g7, 0, none⟩) (k + 1) c7) (k + 1) aub) := fun g7 c7 w4 q1 q2 q3 => bkR_refs (n := m) n1 n2 n3 HAUL.out n4 (by rw [ej] at *; exact hown3) (by rw [ej]; exact n5) (.cells #[.int .i64 ref] 3) ref q1 q2 q3
          clear n1 n2 n3 n4 n5 hown3 hgr3 HSA hszA HNX
          go_wp2_with (at_builtin; refine Try.append_z1 rfl _ _ rfl w.heap.size _ k R rfl HSB.out.1 w3.heap.size ref rfl HSB.out.2 (by omega) hszB ?_)
          intro g7 c7 w4 hown4 hgr4 hl4
          obtain ⟨m1, m2⟩ := HNY.out g7 c7 w4 (by simpa using hown4) hgr4 (by simpa using hl4)
          have HL4 : Hid (BkL w w4 g m F2 N' (K ++ [l]) (R ++ [ref]) (.slice ka3 (k + 1) kc3) (.slice (some ⟨g7, 0, none⟩) (k + 1) c7) (k + 1) aub) := ⟨m1, HNF.out, HBK.out, by rw [List.length_append, HKL.out]; rfl, m2⟩
          clear m1 m2 hown4 hgr4 hl4 HNY HSB hszB HNF HBK HKL HAUL
          go_wp2
          go_roundw
          case rel => exact ⟨k + 1, by omega, by omega, by go_num, F2, N', K ++ [l], R ++ [ref], HL4⟩
          case measure => simp [intOf]; omega
    · have hex : (¬ k < len) ∨ (k < len ∧ k = 12) := by omega
      obtain ⟨vs, hvs, hrow⟩ := HL.out.mem.rows
      obtain ⟨ka, kc, hkv⟩ := own_slZ hvs
      obtain ⟨ra2, rc2, hrv⟩ := own_slZ HL.out.mem.refs
      subst hkv
      subst hrv
      have HVS : Hid (wr.ownsRow w.heap.size 30 1 (.slice ka k kc) k vs) := hvs
      have HROW : Hid (∀ (i : Nat) (l : List Nat), K[i]? = some l → ∃ b c, vs[i]? = some (.slice (some ⟨b, 0, none⟩) (2 ^ m) c) ∧ wr.ownsRow w.heap.size 3 1 (.slice (some ⟨b, 0, none⟩) (2 ^ m) c) (2 ^ m) (lzV l) ∧ (Value.slice ra2 k rc2).ownBlock ≠ some b) := hrow
      have HA0 : Hid (AuL wr wr aub m R (.slice none 0 0) (.slice none 0 0) 0) := AuL.start HL.out.mem.au
      have HRF : Hid (wr.ownsRow w.heap.size 3 1 (.slice ra2 k rc2) k (R.map (Value.int .i64))) := HL.out.mem.refs
      have HAU : Hid (wr.heap[aub]? = some (.cells #[.int .i64 (m : Int), .slice none 0 0, .slice none 0 0, .slice none 0 0] 48 (0, 0))) := HL.out.mem.au
      have HRL : Hid (R.length = k) := by show _ = _; rw [HL.out.bk.len]; exact HL.out.kl
      clear hvs hrow hgo
      generalize hw9 : wr = w9 at *
      rcases hex with hex | ⟨hex, hk12e⟩
      · subst hw9
        go_wp2
        clear hex
        generalize wr = w9 at *
        go_loopw [16] (fun i wx => ∃ (j : Nat) (av gv : Value), j ≤ 12 ∧ i = .int .i64 (j : Int) ∧ Hid (AuL w9 wx aub m R av gv j)) (fun i _ => 12 - (intOf i).toNat)
        case atStart => exact ⟨0, _, _, by omega, rfl, HA0⟩
        case round =>
          obtain ⟨j, av, gv, hj, rfl, HA⟩ := hrel
          clear HA0
          by_cases hj12 : j < 12
          · obtain ⟨bs, hbs⟩ := HA.out.ac
            have t1 : wr.cell? ⟨aub, 1, none⟩ = some av := cell_row HA.out.blk 1
            obtain ⟨aa, ac, hav⟩ := own_slZ hbs
            obtain ⟨ga, gc, hgv⟩ := own_slZ HA.out.gu
            subst hav
            subst hgv
            have HBS : Hid (wr.ownsRow w9.heap.size 4 1 (.slice aa j ac) j (bs.map Value.bool)) := hbs
            have HSZ : Hid (w9.heap.size ≤ wr.heap.size) := HA.out.fr.size
            clear hbs
            go_wp2_with (at_builtin; refine Try.append_bo rfl _ _ rfl w9.heap.size _ j bs rfl wr.heap.size _ rfl (World.ownsRow.alloc HBS.out _) (cell_row (MapKept.heap_alloc wr _).1 0) (by omega) (Nat.le_trans HSZ.out (by simp)) ?_)
            intro av2 w2 hown2 hgr2
            obtain ⟨aa2, ac2, hav2⟩ := own_slZ hown2
            subst hav2
            obtain ⟨q1, q2, q3, q4, q5⟩ := HA.out.acc HBS.out _ ((j : Int) % 2 == 0) (by simpa using hown2) hgr2
            have t1 : w2.cell? ⟨aub, 1, none⟩ = some (.slice aa j ac) := cell_row q1 1
            have z1 : w2.frozen? ⟨aub, 1, none⟩ = false := frozen_of_row w2 _ 1 _ _ q1
            have HQ : Hid _ := And.intro q2 (And.intro q3 (And.intro q4 q5))
            have t2 : (w2.setCell ⟨aub, 1, none⟩ (.slice aa2 (j + 1) ac2)).cell? ⟨aub, 2, none⟩ = some (.slice ga j gc) := cell_row q2 2
            have HSZ3 : Hid (w9.heap.size ≤ (w2.setCell ⟨aub, 1, none⟩ (.slice aa2 (j + 1) ac2)).heap.size) := q5.size
            clear hown2 hgr2 q1 q2 q3 q4 q5 HBS HA HSZ
            obtain ⟨u2, u3, u4', u5⟩ := HQ.out
            have HSG : Hid (((w2.setCell ⟨aub, 1, none⟩ (.slice aa2 (j + 1) ac2)).alloc (.cells #[.int .i64 (-1)] 3)).ownsRow w9.heap.size 3 1 (.slice ga j gc) j ((gsL R j).map (Value.int .i64)) ∧ ((w2.setCell ⟨aub, 1, none⟩ (.slice aa2 (j + 1) ac2)).alloc (.cells #[.int .i64 (-1)] 3)).cell? ⟨w2.heap.size, 0, none⟩ = some (.int .i64 (-1))) := ⟨World.ownsRow.alloc u4' _, by
              have := cell_row (MapKept.heap_alloc (w2.setCell ⟨aub, 1, none⟩ (.slice aa2 (j + 1) ac2)) (.cells #[.int .i64 (-1)] 3)).1 0
              rw [show (w2.setCell ⟨aub, 1, none⟩ (.slice aa2 (j + 1) ac2)).heap.size = w2.heap.size by simp] at this
              exact this⟩
            have hszG : w9.heap.size ≤ ((w2.setCell ⟨aub, 1, none⟩ (.slice aa2 (j + 1) ac2)).alloc (.cells #[.int .i64 (-1)] 3)).heap.size := Nat.le_trans HSZ3.out (by simp)
            have HNG : Hid (∀ g7 c7 w4, w4.ownsRow w9.heap.size 3 1 (.slice (some ⟨g7, 0, none⟩) (j + 1) c7) (j + 1) ((gsL R j ++ [-1]).map (Value.int .i64)) → ((w2.setCell ⟨aub, 1, none⟩ (.slice aa2 (j + 1) ac2)).alloc (.cells #[.int .i64 (-1)] 3)).grownBy w4 (Value.slice ga j gc).ownBlock → _) := fun g7 c7 w4 p1 p2 => auL_gu u2 u3 u4' u5 (.cells #[.int .i64 (-1)] 3) (-1) p1 p2
            clear HQ u2 u3 u4' u5
            go_wp2_with (at_builtin; refine Try.append_z1 rfl _ _ rfl w9.heap.size _ j (gsL R j) rfl HSG.out.1 w2.heap.size (-1) rfl HSG.out.2 (by omega) hszG ?_)
            intro g7 c7 w4 hown4 hgr4 hl4
            obtain ⟨q1, q2, q3, q4, q5⟩ := HNG.out g7 c7 w4 (by simpa using hown4) hgr4
            have t2' : w4.cell? ⟨aub, 2, none⟩ = some (.slice ga j gc) := cell_row q1 2
            have z2' : w4.frozen? ⟨aub, 2, none⟩ = false := frozen_of_row w4 _ 2 _ _ q1
            have HQ5 : Hid _ := And.intro q2 (And.intro q3 (And.intro q4 q5))
            clear hown4 hgr4 hl4 HSG hszG HNG q1 q2 q3 q4 q5 t1 z1 t2
            by_cases hjk : j < k
            · have hrf5 := HQ5.out.2.2.2.own HRF.out (fun b hb e => auB_ne HAU.out HRF.out (by decide) (by rw [← e]; exact hb))
              obtain ⟨_, _, e1, hRS, _, _⟩ := ownZ_sl (T := 30) hrf5 Try.underlying30 Try.sizeInt
              injection e1 with e1a _ e1b
              subst e1a e1b
              have hixr := fun w' => hRS.idx k j w' hjk (Nat.le_refl _)
              have hcer := hRS.cell j hjk
              have hixg : ∀ w', (Instr.indexAt 30 (.slice (some ⟨g7, 0, none⟩) (j + 1) c7) (.int .i64 (j : Int))).run Try.prog w' = .ok (.pointer (some ⟨g7, j, none⟩)) w' := fun w' => by
                have := idx_of (P := Try.prog) (T := 30) (e := 3) Try.underlying30 Try.sizeInt (a := some ⟨g7, 0, none⟩) (cap := c7) (n := j + 1) (by simp) j w' (by omega)
                simpa [adOf, add_plain] using this
              have hzz : R.getD j (-1) = R.getD j 0 := by
                have hjR : j < R.length := by rw [HRL.out]; exact hjk
                simp [List.getD_eq_getElem?_getD, List.getElem?_eq_getElem hjR]
              have HF6 : Hid (AuL w9 ((w4.setCell ⟨aub, 2, none⟩ (.slice (some ⟨g7, 0, none⟩) (j + 1) c7)).setCell ⟨g7, j, none⟩ (.int .i64 (R.getD j 0))) aub m R (.slice aa2 (j + 1) ac2) (.slice (some ⟨g7, 0, none⟩) (j + 1) c7) (j + 1)) := auL_set HQ5.out.1 HQ5.out.2.1 HQ5.out.2.2.1 HQ5.out.2.2.2 hzz
              obtain ⟨⟨ug, t6⟩, z6⟩ := (own_setZ HQ5.out.2.2.1 (i := j) (by omega) (R.getD j 0)).2
              have t5 : (w4.setCell ⟨aub, 2, none⟩ (.slice (some ⟨g7, 0, none⟩) (j + 1) c7)).cell? ⟨aub, 2, none⟩ = some (.slice (some ⟨g7, 0, none⟩) (j + 1) c7) := cell_row HQ5.out.1 2
              clear hzz hRS hrf5 HQ5
              generalize R.getD j 0 = zz at *
              generalize adOf ra2 j = ad at *
              obtain ⟨gz, oz, sz⟩ := ad
              go_wp2_with fail
              go_region
              all_goals
                clear t5 t6 z6 hixg hcer hixr t2' z2'
                go_wp2
                go_roundw
                case rel => exact ⟨j + 1, _, _, by omega, by go_num, HF6.out.drew⟩
                case measure => simp [intOf]; omega
            · have HF6 : Hid (AuL w9 (w4.setCell ⟨aub, 2, none⟩ (.slice (some ⟨g7, 0, none⟩) (j + 1) c7)) aub m R (.slice aa2 (j + 1) ac2) (.slice (some ⟨g7, 0, none⟩) (j + 1) c7) (j + 1)) := auL_same HQ5.out.1 HQ5.out.2.1 HQ5.out.2.2.1 HQ5.out.2.2.2 (by rw [HRL.out]; omega)
              clear HQ5
              go_wp2
              go_roundw
              case rel => exact ⟨j + 1, _, _, by omega, by go_num, HF6⟩
              case measure => simp [intOf]; omega
          · obtain rfl : j = 12 := by omega
            obtain ⟨bs, hbs⟩ := HA.out.ac
            obtain ⟨aa, ac, hav⟩ := own_slZ hbs
            obtain ⟨ga, gc, hgv⟩ := own_slZ HA.out.gu
            subst hav
            subst hgv
            have hfew := HL.out.few hm5 hk12
            have HFEW : Hid _ := hfew
            have hsr : StG wr F1 g m N := HL.out.st.far fun b hb => HA.out.fr.keep b (HL.out.st.lt b hb) (fun e => by
              subst e
              rcases HL.out.st.type hb HL.out.mem.au with e | e <;> exact absurd e (by decide))
            have jN := Try.snodes_any hsr (by omega)
            clear hbs hfew hsr HRF HVS HROW
            go_wp2_with fail
            refine jN.mono ?_
            rintro e w2 ⟨hb2, vn, rfl, hon⟩
            obtain ⟨an, cn, hvn⟩ := own_slZ hon
            subst hvn
            obtain ⟨_, q1, q2⟩ := bkF_of HL.out HA.out hb2 hon
            have t3 : w2.cell? ⟨aub, 3, none⟩ = some (.slice none 0 0) := cell_row q1 3
            have z3 : w2.frozen? ⟨aub, 3, none⟩ = false := frozen_of_row w2 _ 3 _ _ q1
            have HF3 : Hid (BkF w (w2.setCell ⟨aub, 3, none⟩ (.slice an N.length cn)) g m F1 N K R ka kc ra2 rc2 k aub aa ac ga gc an cn) := q2
            have HBK : Hid (BkG m 12 N K R) := HL.out.bk
            have HKL : Hid (K.length = k) := HL.out.kl
            clear q1 q2 hb2 hon jN HA HL HAU
            generalize hNL : N.length = L at *
            have HNL : Hid _ := hNL
            clear hNL
            go_wp2
            generalize w2.setCell ⟨aub, 3, none⟩ (.slice an L cn) = w4 at *
            go_loopw [17] (fun i wx => ∃ j : Nat, j ≤ k ∧ i = .int .i64 (j : Int) ∧ Hid (BkF w wx g m F1 N K R ka kc ra2 rc2 k aub aa ac ga gc an cn)) (fun i _ => k - (intOf i).toNat)
            case atStart => exact ⟨0, Nat.zero_le _, rfl, HF3⟩
            case round =>
              obtain ⟨j, hj, rfl, HF⟩ := hrel
              clear HF3 t3 z3
              by_cases hjk : j < k
              · have hjR : j < R.length := by rw [HRL.out]; exact hjk
                have hjK : j < K.length := by rw [HKL.out]; exact hjk
                have hRj : R[j]? = some (R.getD j 0) := by simp [List.getD_eq_getElem?_getD, List.getElem?_eq_getElem hjR]
                have hKj : K[j]? = some K[j] := List.getElem?_eq_getElem hjK
                have hr64 := HBK.out.ref (by omega) (by have := HFEW.out; have := HNL.out; omega) hRj
                have htab := HBK.out.tab hKj hRj
                obtain ⟨gi, b, c, hixk, hcek, hzk⟩ := HF.out.kp j _ hKj
                have hixr := fun w' => HF.out.rf.idx k j w' hjk (Nat.le_refl _)
                have hcer := HF.out.rf.cell j hjk
                have c3 := HF.out.au.c3
                rw [HNL.out] at c3
                have HIF : Hid (∀ j2 l2 r2, K[j2]? = some l2 → R[j2]? = some r2 → (R.getD j 0 = r2 ↔ K[j] = l2)) := fun j2 l2 r2 h1 h2 => HBK.out.iff hKj hRj h1 h2
                have HJT : Hid (∀ w', Below wr.heap.size wr w' → Calls Try.prog 20 #[.int .i64 (m : Int), .slice an L cn, .int .i64 (R.getD j 0)] w' fun e w'' => ∃ ta tc, e = .returned (.tuple #[.slice ta (2 ^ m) tc, .int .i64 0]) ∧ ZSl w'' ta (2 ^ m) tc (K[j].map Int.ofNat) ∧ Below w'.heap.size w' w'') := fun w' hb => by
                  have hnd := (HF.out.up hb).nd
                  rw [HNL.out] at hnd
                  refine (Try.gtab_any (m : Int) an L cn N (R.getD j 0) w' hnd hr64).mono fun e w'' hq => ?_
                  obtain ⟨q1, ⟨q2, _⟩ | ⟨_, _, ⟨q2, _⟩ | ⟨tl, ta, tc, q2, q3, q4⟩⟩⟩ := hq
                  · exact absurd q2 (by omega)
                  · rw [Int.toNat_natCast, htab] at q2; cases q2
                  · rw [Int.toNat_natCast, htab] at q2
                    injection q2 with q2
                    have hl : tl.length = 2 ^ m := by rw [← q2]; simpa using (HBK.out.it j _ _ hKj hRj).1
                    rw [hl] at q3 q4
                    rw [q2]
                    exact ⟨ta, tc, q3, q4, q1⟩
                have HZK : Hid _ := hzk
                have HCK : Hid _ := hcek
                have HLK : Hid (K[j].length = 2 ^ m) := (HBK.out.it j _ _ hKj hRj).1
                clear hRj htab hr64 hzk hjR
                generalize hlj : K[j] = lj at *
                have HLJ : Hid _ := hlj
                clear hlj
                generalize hrj : R.getD j 0 = r at *
                have HRJ : Hid _ := hrj
                clear hrj
                generalize adOf ra2 j = ad at *
                obtain ⟨gr, or_, sr⟩ := ad
                have hk0 : wr.drew.cell? ⟨aub, 3, none⟩ = some (.slice an L cn) ∧ wr.drew.cell? ⟨gr, or_, sr⟩ = some (.int .i64 r) ∧ Hid (Below wr.heap.size wr wr.drew) := ⟨c3, hcer, (Below.refl _ _).drew⟩
                have hk : ∀ w0 w1 : World, (w0.cell? ⟨aub, 3, none⟩ = some (.slice an L cn) ∧ w0.cell? ⟨gr, or_, sr⟩ = some (.int .i64 r) ∧ Hid (Below wr.heap.size wr w0)) → Below w0.heap.size w0 w1 → (w1.cell? ⟨aub, 3, none⟩ = some (.slice an L cn) ∧ w1.cell? ⟨gr, or_, sr⟩ = some (.int .i64 r) ∧ Hid (Below wr.heap.size wr w1)) := fun w0 w1 ⟨h1, h2, h3⟩ hb => ⟨kept_cell h1 hb, kept_cell h2 hb, below_step h3.out hb⟩
                clear c3 hcer
                go_wp2_with fail
                go_region_held3 (fun wx => wx.cell? ⟨aub, 3, none⟩ = some (.slice an L cn) ∧ wx.cell? ⟨gr, or_, sr⟩ = some (.int .i64 r) ∧ Hid (Below wr.heap.size wr wx)) (first | exact hk0 | exact hk _ _ ‹_› ‹_› | assumption | fail) ((go_at_call 20; refine (HJT.out _ (‹_ ∧ _ ∧ Hid (Below wr.heap.size wr _)›).2.2.out).mono ?_; rintro e w5 ⟨ta, tc, rfl, hzt, hb5⟩))
                have hb5w : Below wr.heap.size wr w5 := below_step ((Below.refl _ _).drew) hb5
                have jS := Try.sameI_any ta (2 ^ m) tc (lj.map Int.ofNat) (some ⟨b, 0, none⟩) (2 ^ m) c (lj.map Int.ofNat) w5 hzt (HZK.out.up hb5w)
                rw [decide_eq_true rfl] at jS
                have hck5 := kept_cell HCK.out hb5w
                have HF5 : Hid (BkF w w5 g m F1 N K R ka kc ra2 rc2 k aub aa ac ga gc an cn) := HF.out.up hb5w
                clear hk hk0 hb5 hzt HJT HZK HCK HF hb5w
                clear ‹_ ∧ _ ∧ Hid (Below wr.heap.size wr w5)›
                go_wp2_with fail
                refine jS.mono ?_
                rintro e w6 ⟨rfl, hn6⟩
                have HF6 : Hid (BkF w w6 g m F1 N K R ka kc ra2 rc2 k aub aa ac ga gc an cn) := HF5.out.up (drew_belowZ hn6)
                clear jS hck5 HF5 hn6
                clear hixr hixk
                go_wp2
                generalize hwo : wr = wo at *
                clear hwo
                go_loopw [20] (fun i wx => ∃ j2 : Nat, j2 ≤ j ∧ i = .int .i64 (j2 : Int) ∧ Hid (BkF w wx g m F1 N K R ka kc ra2 rc2 k aub aa ac ga gc an cn)) (fun i _ => j - (intOf i).toNat)
                case atStart => exact ⟨0, Nat.zero_le _, rfl, HF6⟩
                case round =>
                  obtain ⟨j2, hj2, rfl, HF⟩ := hrel
                  clear HF6
                  by_cases hjj : j2 < j
                  · have hjk2 : j2 < k := by omega
                    have hjR2 : j2 < R.length := by rw [HRL.out]; exact hjk2
                    have hjK2 : j2 < K.length := by rw [HKL.out]; exact hjk2
                    have hRj2 : R[j2]? = some (R.getD j2 0) := by simp [List.getD_eq_getElem?_getD, List.getElem?_eq_getElem hjR2]
                    have hKj2 : K[j2]? = some K[j2] := List.getElem?_eq_getElem hjK2
                    have hiff := HIF.out j2 _ _ hKj2 hRj2
                    obtain ⟨gi1, b1, c1, hix1, hce1, hz1⟩ := HF.out.kp j lj hKj
                    obtain ⟨gi2, b2, c2, hix2, hce2, hz2⟩ := HF.out.kp j2 _ hKj2
                    have hcer1 := HF.out.rf.cell j hjk
                    have hixr2 := fun w' => HF.out.rf.idx k j2 w' hjk2 (Nat.le_refl _)
                    have hcer2 := HF.out.rf.cell j2 hjk2
                    have hixr1 := fun w' => HF.out.rf.idx k j w' hjk (Nat.le_refl _)
                    have jS : ∀ nq, Calls Try.prog 22 #[.slice (some ⟨b1, 0, none⟩) (2 ^ m) c1, .slice (some ⟨b2, 0, none⟩) (2 ^ m) c2] (wr.drewN nq) fun e w' => e = .returned (.bool (decide (lj = K[j2]))) ∧ ∃ n, w' = (wr.drewN nq).drewN n := fun nq => by
                      have := Try.sameI_any (some ⟨b1, 0, none⟩) (2 ^ m) c1 (lj.map Int.ofNat) (some ⟨b2, 0, none⟩) (2 ^ m) c2 (K[j2].map Int.ofNat) (wr.drewN nq) (hz1.up (below_drewN (Below.refl _ _) nq)) (hz2.up (below_drewN (Below.refl _ _) nq))
                      rwa [show decide (lj.map Int.ofNat = K[j2].map Int.ofNat) = decide (lj = K[j2]) from decide_eq_decide.2 (List.map_inj_right (fun _ _ h => Int.ofNat.inj h))] at this
                    have HFN : Hid (∀ nq, BkF w (wr.drewN nq) g m F1 N K R ka kc ra2 rc2 k aub aa ac ga gc an cn) := fun nq => HF.out.up (below_drewN (Below.refl _ _) nq)
                    have hrj : R.getD j 0 = r := HRJ.out
                    rw [hrj] at hcer1
                    clear hz1 hz2 HF hRj2 hjR2 hrj
                    generalize R.getD j2 0 = r2 at *
                    generalize K[j2] = l2 at *
                    generalize adOf ra2 j2 = ad2 at *
                    generalize adOf ra2 j = ad1 at *
                    obtain ⟨gr1, or1, sr1⟩ := ad1
                    obtain ⟨gr2, or2, sr2⟩ := ad2
                    by_cases hrr : r = r2
                    · have hll := hiff.1 hrr
                      have d1 : (r == r2) = true := by simpa using hrr
                      have jS2 : ∀ nq, Calls Try.prog 22 #[.slice (some ⟨b1, 0, none⟩) (2 ^ m) c1, .slice (some ⟨b2, 0, none⟩) (2 ^ m) c2] (wr.drewN nq) fun e w' => e = .returned (.bool true) ∧ ∃ n, w' = (wr.drewN nq).drewN n := fun nq => by
                        have := jS nq
                        rwa [decide_eq_true hll] at this
                      clear hll hiff hrr jS hKj2
                      go_wp2_with fail
                      go_quiet ((go_at_call 22; exact Calls.quiet_of (jS2 _)))
                      have HF7 : Hid _ := HFN.out nq
                      clear HFN jS2
                      go_wp2
                      go_roundw
                      case rel => exact ⟨j2 + 1, by omega, by go_num, HF7⟩
                      case measure => simp [intOf]; omega
                    · have hll : ¬ lj = l2 := fun h => hrr (hiff.2 h)
                      have d1 : (r == r2) = false := by simpa using hrr
                      have jS2 : ∀ nq, Calls Try.prog 22 #[.slice (some ⟨b1, 0, none⟩) (2 ^ m) c1, .slice (some ⟨b2, 0, none⟩) (2 ^ m) c2] (wr.drewN nq) fun e w' => e = .returned (.bool false) ∧ ∃ n, w' = (wr.drewN nq).drewN n := fun nq => by
                        have := jS nq
                        rwa [decide_eq_false hll] at this
                      clear hll hiff hrr jS hKj2
                      go_wp2_with fail
                      go_quiet ((go_at_call 22; exact Calls.quiet_of (jS2 _)))
                      have HF7 : Hid _ := HFN.out nq
                      clear HFN jS2
                      go_wp2
                      go_roundw
                      case rel => exact ⟨j2 + 1, by omega, by go_num, HF7⟩
                      case measure => simp [intOf]; omega
                  · go_wp2
                    go_roundw
                    case rel => exact ⟨j + 1, by omega, by go_num, HF⟩
                    case measure => simp [intOf]; omega
              · obtain rfl : j = k := by omega
                have hmay : MayG (m : Int) 12 N (gsL R 12) := HBK.out.may (by omega) (by omega) (by omega) (by omega) (gsL_len R 12) (fun g hg => gsL_mem hg) (by have := HFEW.out; have := HNL.out; omega)
                have hok : ∀ z ∈ gsL R 12, I64 z := fun z hz => by
                  rcases gsL_mem hz with e | e
                  · subst e; exact ⟨by omega, by omega⟩
                  · obtain ⟨i, hi⟩ := List.mem_iff_getElem?.1 e
                    exact HBK.out.ref (by omega) (by have := HFEW.out; have := HNL.out; omega) hi
                have cC : ∀ d os, Calls Try.prog 23 #[.agg #[.int .i64 (m : Int), .slice aa 12 ac, .slice ga 12 gc, .slice an L cn]] (grow (redrawn wr d) os) fun e w'' => e = .returned (.int .i64 0) ∧ ∃ p : Regrown, w'' = grow (redrawn wr p.d) p.os := fun d os => Calls.regrown_of (by
                  have hF := HF.out.up (below_regrown wr d os)
                  have hnd := hF.nd
                  rw [HNL.out] at hnd
                  refine (Try.gchk_any (m : Int) aa 12 ac ga 12 gc an L cn N (gsL R 12) _ hnd hF.gu hok (by have := HFEW.out; omega)).mono fun e w'' hq => ?_
                  obtain ⟨q1, v, q2, ⟨q3, _⟩ | ⟨_, q3⟩⟩ := hq
                  · subst q3; exact ⟨q2, q1⟩
                  · exact absurd hmay q3)
                have cL : ∀ d os, Calls Try.prog 14 #[.pointer (some ⟨g, 0, none⟩)] (grow (redrawn wr d) os) fun e w'' => e = .returned (.int .i64 (L : Int)) ∧ ∃ p : Regrown, w'' = grow (redrawn wr p.d) p.os := fun d os => Calls.regrown_of ((Try.slen_any (HF.out.st.up (below_regrown wr d os))).mono fun e w'' ⟨h1, h2⟩ => ⟨by rw [h1, HNL.out], by rw [h2]; exact Below.refl _ _⟩)
                have hau := HF.out.au
                rw [HNL.out] at hau
                have k0 := cell_regrown hau.c0
                have k1 := cell_regrown hau.c1
                have k2 := cell_regrown hau.c2
                have k3 := cell_regrown hau.c3
                have dL : ((L : Int) == (L : Int)) = true := by simp
                have HE : Hid (∀ d os, Below w.heap.size w (grow (redrawn wr d) os)) := fun d os => below_step HF.out.bel (below_regrown _ d os)
                clear hmay hok hau HF
                go_wp2_with fail
                refine wp_region_quiet_below (by kernel_rfl) (by kernel_rfl) ?_
                repeat (go_big_quiet_step (first | exact cC _ _ | exact cL _ _))
                refine wpQuiet_nil ?_
                intro _ hw'
                obtain ⟨⟨dq, osq⟩, hw''⟩ := hw'
                subst hw''
                go_wp2
                go_ret
                exact ⟨rfl, HE.out _ _⟩
      · have hn12 : ¬ k < 12 := by omega
        have HK12 : Hid (k = 12) := hk12e
        clear hk12e
        subst hw9
        go_wp2
        clear hex hn12
        generalize wr = w9 at *
        go_loopw [16] (fun i wx => ∃ (j : Nat) (av gv : Value), j ≤ 12 ∧ i = .int .i64 (j : Int) ∧ Hid (AuL w9 wx aub m R av gv j)) (fun i _ => 12 - (intOf i).toNat)
        case atStart => exact ⟨0, _, _, by omega, rfl, HA0⟩
        case round =>
          obtain ⟨j, av, gv, hj, rfl, HA⟩ := hrel
          clear HA0
          by_cases hj12 : j < 12
          · obtain ⟨bs, hbs⟩ := HA.out.ac
            have t1 : wr.cell? ⟨aub, 1, none⟩ = some av := cell_row HA.out.blk 1
            obtain ⟨aa, ac, hav⟩ := own_slZ hbs
            obtain ⟨ga, gc, hgv⟩ := own_slZ HA.out.gu
            subst hav
            subst hgv
            have HBS : Hid (wr.ownsRow w9.heap.size 4 1 (.slice aa j ac) j (bs.map Value.bool)) := hbs
            have HSZ : Hid (w9.heap.size ≤ wr.heap.size) := HA.out.fr.size
            clear hbs
            go_wp2_with (at_builtin; refine Try.append_bo rfl _ _ rfl w9.heap.size _ j bs rfl wr.heap.size _ rfl (World.ownsRow.alloc HBS.out _) (cell_row (MapKept.heap_alloc wr _).1 0) (by omega) (Nat.le_trans HSZ.out (by simp)) ?_)
            intro av2 w2 hown2 hgr2
            obtain ⟨aa2, ac2, hav2⟩ := own_slZ hown2
            subst hav2
            obtain ⟨q1, q2, q3, q4, q5⟩ := HA.out.acc HBS.out _ ((j : Int) % 2 == 0) (by simpa using hown2) hgr2
            have t1 : w2.cell? ⟨aub, 1, none⟩ = some (.slice aa j ac) := cell_row q1 1
            have z1 : w2.frozen? ⟨aub, 1, none⟩ = false := frozen_of_row w2 _ 1 _ _ q1
            have HQ : Hid _ := And.intro q2 (And.intro q3 (And.intro q4 q5))
            have t2 : (w2.setCell ⟨aub, 1, none⟩ (.slice aa2 (j + 1) ac2)).cell? ⟨aub, 2, none⟩ = some (.slice ga j gc) := cell_row q2 2
            have HSZ3 : Hid (w9.heap.size ≤ (w2.setCell ⟨aub, 1, none⟩ (.slice aa2 (j + 1) ac2)).heap.size) := q5.size
            clear hown2 hgr2 q1 q2 q3 q4 q5 HBS HA HSZ
            obtain ⟨u2, u3, u4', u5⟩ := HQ.out
            have HSG : Hid (((w2.setCell ⟨aub, 1, none⟩ (.slice aa2 (j + 1) ac2)).alloc (.cells #[.int .i64 (-1)] 3)).ownsRow w9.heap.size 3 1 (.slice ga j gc) j ((gsL R j).map (Value.int .i64)) ∧ ((w2.setCell ⟨aub, 1, none⟩ (.slice aa2 (j + 1) ac2)).alloc (.cells #[.int .i64 (-1)] 3)).cell? ⟨w2.heap.size, 0, none⟩ = some (.int .i64 (-1))) := ⟨World.ownsRow.alloc u4' _, by
              have := cell_row (MapKept.heap_alloc (w2.setCell ⟨aub, 1, none⟩ (.slice aa2 (j + 1) ac2)) (.cells #[.int .i64 (-1)] 3)).1 0
              rw [show (w2.setCell ⟨aub, 1, none⟩ (.slice aa2 (j + 1) ac2)).heap.size = w2.heap.size by simp] at this
              exact this⟩
            have hszG : w9.heap.size ≤ ((w2.setCell ⟨aub, 1, none⟩ (.slice aa2 (j + 1) ac2)).alloc (.cells #[.int .i64 (-1)] 3)).heap.size := Nat.le_trans HSZ3.out (by simp)
            have HNG : Hid (∀ g7 c7 w4, w4.ownsRow w9.heap.size 3 1 (.slice (some ⟨g7, 0, none⟩) (j + 1) c7) (j + 1) ((gsL R j ++ [-1]).map (Value.int .i64)) → ((w2.setCell ⟨aub, 1, none⟩ (.slice aa2 (j + 1) ac2)).alloc (.cells #[.int .i64 (-1)] 3)).grownBy w4 (Value.slice ga j gc).ownBlock → _) := fun g7 c7 w4 p1 p2 => auL_gu u2 u3 u4' u5 (.cells #[.int .i64 (-1)] 3) (-1) p1 p2
            clear HQ u2 u3 u4' u5
            go_wp2_with (at_builtin; refine Try.append_z1 rfl _ _ rfl w9.heap.size _ j (gsL R j) rfl HSG.out.1 w2.heap.size (-1) rfl HSG.out.2 (by omega) hszG ?_)
            intro g7 c7 w4 hown4 hgr4 hl4
            obtain ⟨q1, q2, q3, q4, q5⟩ := HNG.out g7 c7 w4 (by simpa using hown4) hgr4
            have t2' : w4.cell? ⟨aub, 2, none⟩ = some (.slice ga j gc) := cell_row q1 2
            have z2' : w4.frozen? ⟨aub, 2, none⟩ = false := frozen_of_row w4 _ 2 _ _ q1
            have HQ5 : Hid _ := And.intro q2 (And.intro q3 (And.intro q4 q5))
            clear hown4 hgr4 hl4 HSG hszG HNG q1 q2 q3 q4 q5 t1 z1 t2
            by_cases hjk : j < k
            · have hrf5 := HQ5.out.2.2.2.own HRF.out (fun b hb e => auB_ne HAU.out HRF.out (by decide) (by rw [← e]; exact hb))
              obtain ⟨_, _, e1, hRS, _, _⟩ := ownZ_sl (T := 30) hrf5 Try.underlying30 Try.sizeInt
              injection e1 with e1a _ e1b
              subst e1a e1b
              have hixr := fun w' => hRS.idx k j w' hjk (Nat.le_refl _)
              have hcer := hRS.cell j hjk
              have hixg : ∀ w', (Instr.indexAt 30 (.slice (some ⟨g7, 0, none⟩) (j + 1) c7) (.int .i64 (j : Int))).run Try.prog w' = .ok (.pointer (some ⟨g7, j, none⟩)) w' := fun w' => by
                have := idx_of (P := Try.prog) (T := 30) (e := 3) Try.underlying30 Try.sizeInt (a := some ⟨g7, 0, none⟩) (cap := c7) (n := j + 1) (by simp) j w' (by omega)
                simpa [adOf, add_plain] using this
              have hzz : R.getD j (-1) = R.getD j 0 := by
                have hjR : j < R.length := by rw [HRL.out]; exact hjk
                simp [List.getD_eq_getElem?_getD, List.getElem?_eq_getElem hjR]
              have HF6 : Hid (AuL w9 ((w4.setCell ⟨aub, 2, none⟩ (.slice (some ⟨g7, 0, none⟩) (j + 1) c7)).setCell ⟨g7, j, none⟩ (.int .i64 (R.getD j 0))) aub m R (.slice aa2 (j + 1) ac2) (.slice (some ⟨g7, 0, none⟩) (j + 1) c7) (j + 1)) := auL_set HQ5.out.1 HQ5.out.2.1 HQ5.out.2.2.1 HQ5.out.2.2.2 hzz
              obtain ⟨⟨ug, t6⟩, z6⟩ := (own_setZ HQ5.out.2.2.1 (i := j) (by omega) (R.getD j 0)).2
              have t5 : (w4.setCell ⟨aub, 2, none⟩ (.slice (some ⟨g7, 0, none⟩) (j + 1) c7)).cell? ⟨aub, 2, none⟩ = some (.slice (some ⟨g7, 0, none⟩) (j + 1) c7) := cell_row HQ5.out.1 2
              clear hzz hRS hrf5 HQ5
              generalize R.getD j 0 = zz at *
              generalize adOf ra2 j = ad at *
              obtain ⟨gz, oz, sz⟩ := ad
              go_wp2_with fail
              go_region
              all_goals
                clear t5 t6 z6 hixg hcer hixr t2' z2'
                go_wp2
                go_roundw
                case rel => exact ⟨j + 1, _, _, by omega, by go_num, HF6.out.drew⟩
                case measure => simp [intOf]; omega
            · exact absurd hj12 (by have := HK12.out; omega)
          · obtain rfl : j = 12 := by omega
            obtain ⟨bs, hbs⟩ := HA.out.ac
            obtain ⟨aa, ac, hav⟩ := own_slZ hbs
            obtain ⟨ga, gc, hgv⟩ := own_slZ HA.out.gu
            subst hav
            subst hgv
            have hfew := HL.out.few hm5 hk12
            have HFEW : Hid _ := hfew
            have hsr : StG wr F1 g m N := HL.out.st.far fun b hb => HA.out.fr.keep b (HL.out.st.lt b hb) (fun e => by
              subst e
              rcases HL.out.st.type hb HL.out.mem.au with e | e <;> exact absurd e (by decide))
            have jN := Try.snodes_any hsr (by omega)
            clear hbs hfew hsr HRF HVS HROW
            go_wp2_with fail
            refine jN.mono ?_
            rintro e w2 ⟨hb2, vn, rfl, hon⟩
            obtain ⟨an, cn, hvn⟩ := own_slZ hon
            subst hvn
            obtain ⟨_, q1, q2⟩ := bkF_of HL.out HA.out hb2 hon
            have t3 : w2.cell? ⟨aub, 3, none⟩ = some (.slice none 0 0) := cell_row q1 3
            have z3 : w2.frozen? ⟨aub, 3, none⟩ = false := frozen_of_row w2 _ 3 _ _ q1
            have HF3 : Hid (BkF w (w2.setCell ⟨aub, 3, none⟩ (.slice an N.length cn)) g m F1 N K R ka kc ra2 rc2 k aub aa ac ga gc an cn) := q2
            have HBK : Hid (BkG m 12 N K R) := HL.out.bk
            have HKL : Hid (K.length = k) := HL.out.kl
            clear q1 q2 hb2 hon jN HA HL HAU
            generalize hNL : N.length = L at *
            have HNL : Hid _ := hNL
            clear hNL
            go_wp2
            generalize w2.setCell ⟨aub, 3, none⟩ (.slice an L cn) = w4 at *
            go_loopw [17] (fun i wx => ∃ j : Nat, j ≤ k ∧ i = .int .i64 (j : Int) ∧ Hid (BkF w wx g m F1 N K R ka kc ra2 rc2 k aub aa ac ga gc an cn)) (fun i _ => k - (intOf i).toNat)
            case atStart => exact ⟨0, Nat.zero_le _, rfl, HF3⟩
            case round =>
              obtain ⟨j, hj, rfl, HF⟩ := hrel
              clear HF3 t3 z3
              by_cases hjk : j < k
              · have hjR : j < R.length := by rw [HRL.out]; exact hjk
                have hjK : j < K.length := by rw [HKL.out]; exact hjk
                have hRj : R[j]? = some (R.getD j 0) := by simp [List.getD_eq_getElem?_getD, List.getElem?_eq_getElem hjR]
                have hKj : K[j]? = some K[j] := List.getElem?_eq_getElem hjK
                have hr64 := HBK.out.ref (by omega) (by have := HFEW.out; have := HNL.out; omega) hRj
                have htab := HBK.out.tab hKj hRj
                obtain ⟨gi, b, c, hixk, hcek, hzk⟩ := HF.out.kp j _ hKj
                have hixr := fun w' => HF.out.rf.idx k j w' hjk (Nat.le_refl _)
                have hcer := HF.out.rf.cell j hjk
                have c3 := HF.out.au.c3
                rw [HNL.out] at c3
                have HIF : Hid (∀ j2 l2 r2, K[j2]? = some l2 → R[j2]? = some r2 → (R.getD j 0 = r2 ↔ K[j] = l2)) := fun j2 l2 r2 h1 h2 => HBK.out.iff hKj hRj h1 h2
                have HJT : Hid (∀ w', Below wr.heap.size wr w' → Calls Try.prog 20 #[.int .i64 (m : Int), .slice an L cn, .int .i64 (R.getD j 0)] w' fun e w'' => ∃ ta tc, e = .returned (.tuple #[.slice ta (2 ^ m) tc, .int .i64 0]) ∧ ZSl w'' ta (2 ^ m) tc (K[j].map Int.ofNat) ∧ Below w'.heap.size w' w'') := fun w' hb => by
                  have hnd := (HF.out.up hb).nd
                  rw [HNL.out] at hnd
                  refine (Try.gtab_any (m : Int) an L cn N (R.getD j 0) w' hnd hr64).mono fun e w'' hq => ?_
                  obtain ⟨q1, ⟨q2, _⟩ | ⟨_, _, ⟨q2, _⟩ | ⟨tl, ta, tc, q2, q3, q4⟩⟩⟩ := hq
                  · exact absurd q2 (by omega)
                  · rw [Int.toNat_natCast, htab] at q2; cases q2
                  · rw [Int.toNat_natCast, htab] at q2
                    injection q2 with q2
                    have hl : tl.length = 2 ^ m := by rw [← q2]; simpa using (HBK.out.it j _ _ hKj hRj).1
                    rw [hl] at q3 q4
                    rw [q2]
                    exact ⟨ta, tc, q3, q4, q1⟩
                have HZK : Hid _ := hzk
                have HCK : Hid _ := hcek
                have HLK : Hid (K[j].length = 2 ^ m) := (HBK.out.it j _ _ hKj hRj).1
                clear hRj htab hr64 hzk hjR
                generalize hlj : K[j] = lj at *
                have HLJ : Hid _ := hlj
                clear hlj
                generalize hrj : R.getD j 0 = r at *
                have HRJ : Hid _ := hrj
                clear hrj
                generalize adOf ra2 j = ad at *
                obtain ⟨gr, or_, sr⟩ := ad
                have hk0 : wr.drew.cell? ⟨aub, 3, none⟩ = some (.slice an L cn) ∧ wr.drew.cell? ⟨gr, or_, sr⟩ = some (.int .i64 r) ∧ Hid (Below wr.heap.size wr wr.drew) := ⟨c3, hcer, (Below.refl _ _).drew⟩
                have hk : ∀ w0 w1 : World, (w0.cell? ⟨aub, 3, none⟩ = some (.slice an L cn) ∧ w0.cell? ⟨gr, or_, sr⟩ = some (.int .i64 r) ∧ Hid (Below wr.heap.size wr w0)) → Below w0.heap.size w0 w1 → (w1.cell? ⟨aub, 3, none⟩ = some (.slice an L cn) ∧ w1.cell? ⟨gr, or_, sr⟩ = some (.int .i64 r) ∧ Hid (Below wr.heap.size wr w1)) := fun w0 w1 ⟨h1, h2, h3⟩ hb => ⟨kept_cell h1 hb, kept_cell h2 hb, below_step h3.out hb⟩
                clear c3 hcer
                go_wp2_with fail
                go_region_held3 (fun wx => wx.cell? ⟨aub, 3, none⟩ = some (.slice an L cn) ∧ wx.cell? ⟨gr, or_, sr⟩ = some (.int .i64 r) ∧ Hid (Below wr.heap.size wr wx)) (first | exact hk0 | exact hk _ _ ‹_› ‹_› | assumption | fail) ((go_at_call 20; refine (HJT.out _ (‹_ ∧ _ ∧ Hid (Below wr.heap.size wr _)›).2.2.out).mono ?_; rintro e w5 ⟨ta, tc, rfl, hzt, hb5⟩))
                have hb5w : Below wr.heap.size wr w5 := below_step ((Below.refl _ _).drew) hb5
                have jS := Try.sameI_any ta (2 ^ m) tc (lj.map Int.ofNat) (some ⟨b, 0, none⟩) (2 ^ m) c (lj.map Int.ofNat) w5 hzt (HZK.out.up hb5w)
                rw [decide_eq_true rfl] at jS
                have hck5 := kept_cell HCK.out hb5w
                have HF5 : Hid (BkF w w5 g m F1 N K R ka kc ra2 rc2 k aub aa ac ga gc an cn) := HF.out.up hb5w
                clear hk hk0 hb5 hzt HJT HZK HCK HF hb5w
                clear ‹_ ∧ _ ∧ Hid (Below wr.heap.size wr w5)›
                go_wp2_with fail
                refine jS.mono ?_
                rintro e w6 ⟨rfl, hn6⟩
                have HF6 : Hid (BkF w w6 g m F1 N K R ka kc ra2 rc2 k aub aa ac ga gc an cn) := HF5.out.up (drew_belowZ hn6)
                clear jS hck5 HF5 hn6
                clear hixr hixk
                go_wp2
                generalize hwo : wr = wo at *
                clear hwo
                go_loopw [20] (fun i wx => ∃ j2 : Nat, j2 ≤ j ∧ i = .int .i64 (j2 : Int) ∧ Hid (BkF w wx g m F1 N K R ka kc ra2 rc2 k aub aa ac ga gc an cn)) (fun i _ => j - (intOf i).toNat)
                case atStart => exact ⟨0, Nat.zero_le _, rfl, HF6⟩
                case round =>
                  obtain ⟨j2, hj2, rfl, HF⟩ := hrel
                  clear HF6
                  by_cases hjj : j2 < j
                  · have hjk2 : j2 < k := by omega
                    have hjR2 : j2 < R.length := by rw [HRL.out]; exact hjk2
                    have hjK2 : j2 < K.length := by rw [HKL.out]; exact hjk2
                    have hRj2 : R[j2]? = some (R.getD j2 0) := by simp [List.getD_eq_getElem?_getD, List.getElem?_eq_getElem hjR2]
                    have hKj2 : K[j2]? = some K[j2] := List.getElem?_eq_getElem hjK2
                    have hiff := HIF.out j2 _ _ hKj2 hRj2
                    obtain ⟨gi1, b1, c1, hix1, hce1, hz1⟩ := HF.out.kp j lj hKj
                    obtain ⟨gi2, b2, c2, hix2, hce2, hz2⟩ := HF.out.kp j2 _ hKj2
                    have hcer1 := HF.out.rf.cell j hjk
                    have hixr2 := fun w' => HF.out.rf.idx k j2 w' hjk2 (Nat.le_refl _)
                    have hcer2 := HF.out.rf.cell j2 hjk2
                    have hixr1 := fun w' => HF.out.rf.idx k j w' hjk (Nat.le_refl _)
                    have jS : ∀ nq, Calls Try.prog 22 #[.slice (some ⟨b1, 0, none⟩) (2 ^ m) c1, .slice (some ⟨b2, 0, none⟩) (2 ^ m) c2] (wr.drewN nq) fun e w' => e = .returned (.bool (decide (lj = K[j2]))) ∧ ∃ n, w' = (wr.drewN nq).drewN n := fun nq => by
                      have := Try.sameI_any (some ⟨b1, 0, none⟩) (2 ^ m) c1 (lj.map Int.ofNat) (some ⟨b2, 0, none⟩) (2 ^ m) c2 (K[j2].map Int.ofNat) (wr.drewN nq) (hz1.up (below_drewN (Below.refl _ _) nq)) (hz2.up (below_drewN (Below.refl _ _) nq))
                      rwa [show decide (lj.map Int.ofNat = K[j2].map Int.ofNat) = decide (lj = K[j2]) from decide_eq_decide.2 (List.map_inj_right (fun _ _ h => Int.ofNat.inj h))] at this
                    have HFN : Hid (∀ nq, BkF w (wr.drewN nq) g m F1 N K R ka kc ra2 rc2 k aub aa ac ga gc an cn) := fun nq => HF.out.up (below_drewN (Below.refl _ _) nq)
                    have hrj : R.getD j 0 = r := HRJ.out
                    rw [hrj] at hcer1
                    clear hz1 hz2 HF hRj2 hjR2 hrj
                    generalize R.getD j2 0 = r2 at *
                    generalize K[j2] = l2 at *
                    generalize adOf ra2 j2 = ad2 at *
                    generalize adOf ra2 j = ad1 at *
                    obtain ⟨gr1, or1, sr1⟩ := ad1
                    obtain ⟨gr2, or2, sr2⟩ := ad2
                    by_cases hrr : r = r2
                    · have hll := hiff.1 hrr
                      have d1 : (r == r2) = true := by simpa using hrr
                      have jS2 : ∀ nq, Calls Try.prog 22 #[.slice (some ⟨b1, 0, none⟩) (2 ^ m) c1, .slice (some ⟨b2, 0, none⟩) (2 ^ m) c2] (wr.drewN nq) fun e w' => e = .returned (.bool true) ∧ ∃ n, w' = (wr.drewN nq).drewN n := fun nq => by
                        have := jS nq
                        rwa [decide_eq_true hll] at this
                      clear hll hiff hrr jS hKj2
                      go_wp2_with fail
                      go_quiet ((go_at_call 22; exact Calls.quiet_of (jS2 _)))
                      have HF7 : Hid _ := HFN.out nq
                      clear HFN jS2
                      go_wp2
                      go_roundw
                      case rel => exact ⟨j2 + 1, by omega, by go_num, HF7⟩
                      case measure => simp [intOf]; omega
                    · have hll : ¬ lj = l2 := fun h => hrr (hiff.2 h)
                      have d1 : (r == r2) = false := by simpa using hrr
                      have jS2 : ∀ nq, Calls Try.prog 22 #[.slice (some ⟨b1, 0, none⟩) (2 ^ m) c1, .slice (some ⟨b2, 0, none⟩) (2 ^ m) c2] (wr.drewN nq) fun e w' => e = .returned (.bool false) ∧ ∃ n, w' = (wr.drewN nq).drewN n := fun nq => by
                        have := jS nq
                        rwa [decide_eq_false hll] at this
                      clear hll hiff hrr jS hKj2
                      go_wp2_with fail
                      go_quiet ((go_at_call 22; exact Calls.quiet_of (jS2 _)))
                      have HF7 : Hid _ := HFN.out nq
                      clear HFN jS2
                      go_wp2
                      go_roundw
                      case rel => exact ⟨j2 + 1, by omega, by go_num, HF7⟩
                      case measure => simp [intOf]; omega
                  · go_wp2
                    go_roundw
                    case rel => exact ⟨j + 1, by omega, by go_num, HF⟩
                    case measure => simp [intOf]; omega
              · obtain rfl : j = k := by omega
                have hmay : MayG (m : Int) 12 N (gsL R 12) := HBK.out.may (by omega) (by omega) (by omega) (by omega) (gsL_len R 12) (fun g hg => gsL_mem hg) (by have := HFEW.out; have := HNL.out; omega)
                have hok : ∀ z ∈ gsL R 12, I64 z := fun z hz => by
                  rcases gsL_mem hz with e | e
                  · subst e; exact ⟨by omega, by omega⟩
                  · obtain ⟨i, hi⟩ := List.mem_iff_getElem?.1 e
                    exact HBK.out.ref (by omega) (by have := HFEW.out; have := HNL.out; omega) hi
                have cC : ∀ d os, Calls Try.prog 23 #[.agg #[.int .i64 (m : Int), .slice aa 12 ac, .slice ga 12 gc, .slice an L cn]] (grow (redrawn wr d) os) fun e w'' => e = .returned (.int .i64 0) ∧ ∃ p : Regrown, w'' = grow (redrawn wr p.d) p.os := fun d os => Calls.regrown_of (by
                  have hF := HF.out.up (below_regrown wr d os)
                  have hnd := hF.nd
                  rw [HNL.out] at hnd
                  refine (Try.gchk_any (m : Int) aa 12 ac ga 12 gc an L cn N (gsL R 12) _ hnd hF.gu hok (by have := HFEW.out; omega)).mono fun e w'' hq => ?_
                  obtain ⟨q1, v, q2, ⟨q3, _⟩ | ⟨_, q3⟩⟩ := hq
                  · subst q3; exact ⟨q2, q1⟩
                  · exact absurd hmay q3)
                have cL : ∀ d os, Calls Try.prog 14 #[.pointer (some ⟨g, 0, none⟩)] (grow (redrawn wr d) os) fun e w'' => e = .returned (.int .i64 (L : Int)) ∧ ∃ p : Regrown, w'' = grow (redrawn wr p.d) p.os := fun d os => Calls.regrown_of ((Try.slen_any (HF.out.st.up (below_regrown wr d os))).mono fun e w'' ⟨h1, h2⟩ => ⟨by rw [h1, HNL.out], by rw [h2]; exact Below.refl _ _⟩)
                have hau := HF.out.au
                rw [HNL.out] at hau
                have k0 := cell_regrown hau.c0
                have k1 := cell_regrown hau.c1
                have k2 := cell_regrown hau.c2
                have k3 := cell_regrown hau.c3
                have dL : ((L : Int) == (L : Int)) = true := by simp
                have HE : Hid (∀ d os, Below w.heap.size w (grow (redrawn wr d) os)) := fun d os => below_step HF.out.bel (below_regrown _ d os)
                clear hmay hok hau HF
                go_wp2_with fail
                refine wp_region_quiet_below (by kernel_rfl) (by kernel_rfl) ?_
                repeat (go_big_quiet_step (first | exact cC _ _ | exact cL _ _))
                refine wpQuiet_nil ?_
                intro _ hw'
                obtain ⟨⟨dq, osq⟩, hw''⟩ := hw'
                subst hw''
                go_wp2
                go_ret
                exact ⟨rfl, HE.out _ _⟩
end Go.Proofs.Ytmnkkknkmbldhaa
