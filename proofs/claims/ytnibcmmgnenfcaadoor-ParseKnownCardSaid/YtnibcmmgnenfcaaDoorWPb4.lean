/- Package parse: a name. -/
import Derived.Test.YtnibcmmgnenfcaaDoorWPb3
namespace Go.Proofs.YtnibcmmgnenfcaaDoor
open Go.RowKit Go.Maps

theorem so_at (ws : List Wd) (fin p : Nat) (h : p < (ws ++ [endW fin]).length) : ((ws ++ [endW fin])[p]).so = (match ws.drop p with | [] => 0 | w :: _ => w.so) := by
  by_cases hp : p < ws.length
  · rw [List.getElem_append_left hp, List.drop_eq_getElem_cons hp]
  · have e : p = ws.length := by simp at h; omega
    subst e
    simp [endW]
theorem one_tk2 (w : World) {op q : Nat} (h : op < 256) (hq : q < 256) : TkSl (w.alloc (.cells #[.int .u8 (op : Int), .int .u8 (q : Int)] 42)) (some ⟨w.heap.size, 0, none⟩) 1 1 [(op, q)] := by
  have hc : ∀ j, (w.alloc (.cells #[.int .u8 (op : Int), .int .u8 (q : Int)] 42)).cell? ⟨w.heap.size, j, none⟩ = #[Value.int .u8 (op : Int), .int .u8 (q : Int)][j]? := fun j => cell_row (MapKept.heap_alloc w _).1 j
  refine ⟨rfl, Nat.le_refl _, by unfold maxLen; omega, fun h => (nomatch h), ?_, ?_, fun u hu => by simp at hu; subst hu; exact ⟨h, hq⟩⟩
  all_goals
    intro x hx k hk
    injection hx with hx; subst hx
    simp at hk; subst hk
    rw [add_plain, hc]; rfl
/-- What a name is. -/
def nameR (ns : List Bytes) (fin : Int) : List Wd → PR
  | [] => erR 150 fin
  | w :: r => if w.so = 2 then (if ns.contains w.tx.toList then okR [(2, ns.idxOf w.tx.toList)] r else erR 6 w.pl) else erR 150 w.pl
theorem name_not {ns : List Bytes} {fin : Int} {ws : List Wd} (h : (match ws with | [] => 0 | w :: _ => w.so) ≠ 2) : nameR ns fin ws = erR 150 (plc fin ws) := by
  cases ws with
  | nil => rfl
  | cons w r => simp only at h; simp [nameR, h, plc]
theorem name_is {ns : List Bytes} {fin : Int} {ws : List Wd} (h : (match ws with | [] => 0 | w :: _ => w.so) = 2) : ws ≠ [] ∧ nameR ns fin ws = if 0 ≤ atI ns (hdT ws) then okR [(2, (atI ns (hdT ws)).toNat)] ws.tail else erR 6 (plc fin ws) := by
  cases ws with
  | nil => simp at h
  | cons w r =>
    simp only at h
    refine ⟨by simp, ?_⟩
    have hd : hdT (w :: r) = w.tx.toList := rfl
    rw [hd]
    simp only [nameR, h, if_pos]
    by_cases hc : ns.contains w.tx.toList = true
    · have e : atI ns w.tx.toList = (ns.idxOf w.tx.toList : Int) := by unfold atI; rw [if_pos hc]
      rw [if_pos hc, e, if_pos (by omega)]
      simp
    · have e : atI ns w.tx.toList = -1 := atI_miss (by simpa using hc)
      rw [if_neg hc, e, if_neg (by omega)]
      rfl
set_option maxHeartbeats 2000000 in
set_option maxRecDepth 100000 in
theorem Tryd.pname_any (E : Ev) (p : Nat) (T : List Tk5) (w : World) (h : Cx E w p T) (x : Except Er (List Tk5 × List Wd)) (hx : nameR (nms E.ss) E.fin (E.ws.drop p) = some x) :
    Calls Tryd.prog 106 #[.pointer (some ⟨E.g, 0, none⟩)] w (PC E T x) := by
  obtain ⟨v, c0, c1, c2, _, _, _, _⟩ := h.c
  have hb := h.wd.bd
  have hc := h.wd.hcap
  have hf := h.env.few
  have hp := h.ple
  unfold maxLen at hb
  obtain ⟨g, o, sh, hidx, hc0, q1, q2, _, _⟩ := h.wd.at Tryd.underlying53 Tryd.sizeWd p (by omega)
  have hik := fun w => hidx (E.ws.length + 1) w (by omega)
  rw [so_at E.ws E.fin p (by simp; omega)] at hc0
  have HC : Hid (Cx E w p T) := h
  have hRf := fun er q => Tryd.prefuse_any E p T er (w.drewN q) (h.drew q)
  by_cases hso : (match E.ws.drop p with | [] => 0 | w :: _ => w.so) = 2
  · obtain ⟨hne, hn⟩ := name_is (ns := nms E.ss) (fin := E.fin) hso
    rw [hn] at hx
    rw [hso] at hc0
    have hpl : p < E.ws.length := by
      rcases Nat.lt_or_ge p E.ws.length with hl | hl
      · exact hl
      · exact absurd (List.drop_of_length_le hl) hne
    have hal := atI_lt (nms E.ss) (hdT (E.ws.drop p))
    have hnl := h.names
    clear hn hso hne hidx q1 q2 h
    by_cases hat : 0 ≤ atI (nms E.ss) (hdT (E.ws.drop p))
    · rw [if_pos hat] at hx
      simp [okR] at hx
      clear hRf
      obtain ⟨K, hK'⟩ : ∃ K : Nat, atI (nms E.ss) (hdT (E.ws.drop p)) = K := ⟨(atI (nms E.ss) (hdT (E.ws.drop p))).toNat, by omega⟩
      have hK : K < 256 := by omega
      rw [hK'] at hx hat
      go_enter Tryd.func106, Tryd.ntmps106
      go_wp2
      go_quiet (fail)
      go_wp2
      have HCq : Hid (Cx E (w.drewN nq) p T) := HC.out.drew nq
      clear c0 c1 c2 hik hc0 HC
      obtain ⟨wq, hwq⟩ : ∃ wq, wq = w.drewN nq := ⟨_, rfl⟩
      rw [← hwq] at HCq ⊢
      clear hwq
      have hTx := fun q => Tryd.ptext_any E p T (wq.drewN q) (HCq.out.drew q)
      have hIx := fun q => Tryd.pindex_any E.na E.nl E.nc E.ad E.ss (mkB (hdT (E.ws.drop p))) (wq.drewN q) (HCq.out.drew q).nm
      rw [mkB_toList, hK'] at hIx
      generalize mkB (hdT (E.ws.drop p)) = X at *
      obtain ⟨_, c0, _, _, _, _, _, _⟩ := HCq.out.c
      go_quiet (first | (go_at_call 29; exact Calls.quiet_of (hTx _)) | (go_at_call 87; exact Calls.quiet_of_same (hIx _)))
      have HCr : Hid (Cx E (wq.drewN nq) p T) := HCq.out.drew nq
      clear hTx hIx HCq c0
      obtain ⟨w, hwq⟩ : ∃ w, w = wq.drewN nq := ⟨_, rfl⟩
      rw [← hwq] at HCr ⊢
      clear hwq
      obtain ⟨v, _, _, c2, c3, _, _, z⟩ := HCr.out.c
      have z2 := z 2
      have HC := HCr.out.bump hpl
      have HC : Hid (Cx E (w.setCell ⟨E.g, 2, none⟩ (.int .i64 ((p : Int) + 1))) (p + 1) T) := HC
      obtain ⟨v', _, _, _, c3', hr, ho, _⟩ := HC.out.c
      have hlw := HCr.out.lt
      have hg0 := HCr.out.env.glt
      have ht := HCr.out.tle
      have HS : Hid (E.w0.heap.size ≤ w.heap.size) := HCr.out.gr.size
      have hvv : v' = v := by
        have := c3'
        rw [World.cell?_setCell_other _ _ _ _ (by simp)] at this
        rw [c3] at this; injection this with this; exact this.symm
      subst hvv
      clear c3'
      have HO : Hid ((w.setCell ⟨E.g, 2, none⟩ (.int .i64 ((p : Int) + 1))).ownsRow E.w0.heap.size 42 2 v' T.length (encT T)) := ho
      have HR : Hid ((w.setCell ⟨E.g, 2, none⟩ (.int .i64 ((p : Int) + 1))).heap[E.g]? = some (rowE E (p + 1) v')) := hr
      clear ho hr z HCr
      go_wp2_with (at_builtin; refine Tryd.append_tks rfl _ _ rfl E.w0.heap.size v' T [(2, K)] (some ⟨w.heap.size, 0, none⟩) 1 1 rfl rfl (World.ownsRow.alloc HO.out _) (by
        have := one_tk2 (w.setCell ⟨E.g, 2, none⟩ (.int .i64 ((p : Int) + 1))) (op := 2) (q := K) (by omega) hK
        simpa using this) (by omega) (by simp) (by have := HS.out; simp; omega) ?_)
      intro v4 w4 hown4 hgr4
      have hb1 : Below (w.setCell ⟨E.g, 2, none⟩ (.int .i64 ((p : Int) + 1))).heap.size (w.setCell ⟨E.g, 2, none⟩ (.int .i64 ((p : Int) + 1))) ((w.setCell ⟨E.g, 2, none⟩ (.int .i64 ((p : Int) + 1))).alloc (.cells #[.int .u8 2, .int .u8 (K : Int)] 42)) := below_new _ _
      have hne : ∀ k, k < E.w0.heap.size → some k ≠ v'.ownBlock := fun k hk e => by have := own_ge HO.out k e.symm; omega
      have hss : (w.setCell ⟨E.g, 2, none⟩ (.int .i64 ((p : Int) + 1))).heap.size = w.heap.size := by simp
      have hsw := HS.out
      have hr4 : w4.heap[E.g]? = some (rowE E (p + 1) v') := (hgr4.block E.g (by simp; omega) (hne _ hg0)).trans ((hb1.block E.g (by omega)).trans HR.out)
      have z3 : w4.frozen? ⟨E.g, 3, none⟩ = false := frozen_of_row w4 E.g 3 _ _ hr4
      have c34 : w4.cell? ⟨E.g, 3, none⟩ = some v' := cell_row hr4 3
      have HG4 : Hid (E.w0.grownBy w4 (some E.g)) := ⟨hgr4.os.trans HC.out.gr.os, hgr4.tape.trans HC.out.gr.tape, hgr4.output.trans HC.out.gr.output, by have := hgr4.size; simp at this; omega, fun k hk hn => by
        rw [hgr4.block k (by simp; omega) (hne k hk), hb1.block k (by omega)]; exact HC.out.gr.block k hk hn⟩
      have HR4 : Hid (w4.heap[E.g]? = some (rowE E (p + 1) v')) := hr4
      have HO4 : Hid (w4.ownsRow E.w0.heap.size 42 2 v4 (T.length + 1) (encT (T ++ [(2, K)]))) := hown4
      obtain ⟨a4, k4, rfl⟩ := own_sl HO4.out
      clear hown4 hgr4 hb1 hne hr4 hss hsw
      go_wp2
      go_end0
      have hg5 : w4.grownBy (w4.setCell ⟨E.g, 3, none⟩ (.slice a4 (T.length + 1) k4)) (some E.g) := ⟨rfl, rfl, rfl, by simp, fun k hk hne => Below.heap_setCell _ _ _ _ (fun e => hne (congrArg some e))⟩
      have hCx : Cx E (w4.setCell ⟨E.g, 3, none⟩ (.slice a4 (T.length + 1) k4)) (p + 1) (T ++ [(2, K)]) := by
        refine ⟨HC.out.env, HG4.out.trans hg5, by omega, by simp; omega, .slice a4 (T.length + 1) k4, ?_, by
          rw [List.length_append]; exact owns_keep HO4.out fun k hb hk => hg5.block k hk (fun e => by injection e with e; omega)⟩
        rw [heap_setCell_same w4 E.g 3 _ _ _ HR4.out]
        rfl
      rw [← hx]
      refine ⟨rfl, ?_⟩
      rw [List.length_drop, show E.ws.length - (E.ws.length - (p + 1)) = p + 1 by omega]
      exact hCx
    · rw [if_neg hat] at hx
      simp [erR] at hx
      subst hx
      have e1 : atI (nms E.ss) (hdT (E.ws.drop p)) = -1 := by omega
      clear hRf
      go_enter Tryd.func106, Tryd.ntmps106
      go_wp2
      go_quiet (fail)
      go_wp2
      have HCq : Hid (Cx E (w.drewN nq) p T) := HC.out.drew nq
      clear c0 c1 c2 hik hc0 HC
      obtain ⟨wq, hwq⟩ : ∃ wq, wq = w.drewN nq := ⟨_, rfl⟩
      rw [← hwq] at HCq ⊢
      clear hwq
      have hTx := fun q => Tryd.ptext_any E p T (wq.drewN q) (HCq.out.drew q)
      have hIx := fun q => Tryd.pindex_any E.na E.nl E.nc E.ad E.ss (mkB (hdT (E.ws.drop p))) (wq.drewN q) (HCq.out.drew q).nm
      rw [mkB_toList, e1] at hIx
      generalize mkB (hdT (E.ws.drop p)) = X at *
      obtain ⟨_, c0, _, _, _, _, _, _⟩ := HCq.out.c
      go_quiet (first | (go_at_call 29; exact Calls.quiet_of (hTx _)) | (go_at_call 87; exact Calls.quiet_of_same (hIx _)))
      clear hTx hIx
      go_wp2_with fail
      refine (Tryd.prefuse_any E p T 6 _ (HCq.out.drew _)).mono ?_
      rintro e w3 ⟨rfl, hB⟩
      have hG := (HCq.out.drew _).gr.trans (grown_of hB (some E.g))
      clear hB
      go_wp2
      exact ⟨rfl, rfl, hG⟩
  · have hn := name_not (ns := nms E.ss) (fin := E.fin) hso
    rw [hn] at hx
    simp [erR] at hx
    subst hx
    generalize (match E.ws.drop p with | [] => 0 | w :: _ => w.so) = S at *
    have hS : ¬ ((S : Int) = 2) := by omega
    clear hn hidx q1 q2 h
    go_enter Tryd.func106, Tryd.ntmps106
    go_wp2
    go_quiet (fail)
    go_wp2_with fail
    refine (hRf _ _).mono ?_
    rintro e w3 ⟨rfl, hB⟩
    have hG := (HC.out.drew _).gr.trans (grown_of hB (some E.g))
    clear hRf hB
    go_wp2
    exact ⟨rfl, rfl, hG⟩
end Go.Proofs.YtnibcmmgnenfcaaDoor
