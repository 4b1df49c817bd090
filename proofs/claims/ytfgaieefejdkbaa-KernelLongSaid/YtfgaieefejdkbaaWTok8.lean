/- The document's Check, Path, Blocks, Depths, Props, Plain; and package term's Props. -/
import Derived.Test.YtfgaieefejdkbaaWTok7
import Derived.Test.YtfgaieefejdkbaaWTe5
namespace Go.Proofs.Ytfgaieefejdkbaa
open Go.RowKit Go.Maps

theorem Try.rCheck_any (a : Option Addr) (len cap : Nat) (ts : List Tk) (w : World) (hT : TkSl w a len cap ts) :
    Calls Try.prog 33 #[.slice a len cap] w fun e w' => e = .returned (.int .i64 (lookE ts 1 : Int)) ∧ Below w.heap.size w w' := by
  have hl := Try.kind_any a len cap true false ts w hT rfl
  have hwo : wantOf true false = 1 := rfl
  rw [hwo] at hl
  generalize lookE ts 1 = E at *
  go_enter Try.func33, Try.ntmps33
  go_wp2_with fail
  refine hl.mono ?_
  rintro e w1 ⟨⟨v, rfl, _, _⟩, hw1⟩
  go_wp2
  go_ret
  exact ⟨rfl, hw1⟩
/-- One number more behind a list of the call's own. -/
theorem Try.append_int {w : World} {ops : Array Oper} {rest : List Oper} {o : Oper} {a : Act} {Q : Exit → Act → World → Prop} (hgd : o.guard = none) (s x : Operand)
    (ho : o.op = .call { callee := .builtin .append, args := #[s, x], argTypes := #[77, 77] }) (base : Nat)
    (v : Value) (zs : List Int) (hs : a.eval s = v) (hown : w.ownsRow base 3 1 v zs.length (zs.map (Value.int .i64))) (g : Nat) (z : Int) (hx : a.eval x = .slice (some ⟨g, 0, none⟩) 1 1) (hB : w.cell? ⟨g, 0, none⟩ = some (.int .i64 z))
    (hn : zs.length ≤ 1000000) (hbase : base ≤ w.heap.size)
    (h : ∀ v' w', w'.ownsRow base 3 1 v' (zs ++ [z]).length ((zs ++ [z]).map (Value.int .i64)) → w.grownBy w' v.ownBlock → wpList Try.prog ops Q rest (a.put o.dst v') w') : wpList Try.prog ops Q (o :: rest) a w := by
  obtain ⟨i, hi, hz0, hz1, hz2⟩ := info_parts Try.infoInt
  refine wpList_append_own w hgd s x 77 ho base 3 i _ 1 8 Try.underlying77 hi hz0 hz1 hz2 rfl (by decide) v zs.length _ hs hown ⟨g, 0, none⟩ 1 1 [.int .i64 z] hx rfl (fun j u hj => ?_) (fun u hu => by rw [List.mem_singleton.1 hu]; rfl) (by unfold maxLen; omega) (by omega) hbase ?_
  · have hj0 : j = 0 := by have := (List.getElem?_eq_some_iff.1 hj).1; simpa using this
    subst hj0
    simp at hj
    rw [add_plain, ← hj]; exact hB
  · intro v' w' h1 h2 _
    exact h v' w' (by simpa using h1) h2
def propsI : List Tk → Int → Int
  | [], x => x
  | t :: r, x => propsI r (if t.1 = 2 then bits BinOp.or IntKind.u8 x (2 ^ min t.2 8 % 256) else x)
end Go.Proofs.Ytfgaieefejdkbaa
