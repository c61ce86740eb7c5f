/- Lists of bytes that a call makes itself: appended to, and told as a text. -/
import Derived.Test.YtkobjbmjefkmgaaDoorLib
import Derived.Test.YtkobjbmjefkmgaaDoorRows
import Derived.Test.YtkobjbmjefkmgaaDoorRow
import Derived.WalkKit
import Derived.ProofKit
import Derived.OpenShut
import Derived.ShutString
import Derived.Lib.ConvBytes
namespace Go.Proofs.YtkobjbmjefkmgaaDoor
open Go.ChangeShapes Go.WideShapes Go.ChangeAt Go.RowKit K
set_option linter.unusedVariables false

def byts (l : List UInt8) : List Value := l.map fun b => Value.int .u8 (b.toNat : Nat)
theorem byts_len (l : List UInt8) : (byts l).length = l.length := by simp [byts]
theorem byts_app (a b : List UInt8) : byts (a ++ b) = byts a ++ byts b := by simp [byts]
theorem byts_get (l : List UInt8) (i : Nat) (h : i < l.length) : (byts l)[i]? = some (.int .u8 (byt l i : Nat)) := by
  simp [byts, byt, List.getElem?_eq_getElem h]
def OwnY (w : World) (B : Nat) (v : Value) (l : List UInt8) : Prop := w.ownsRow B 5 1 v l.length (byts l)
theorem OwnY.nil (w : World) (B : Nat) : OwnY w B (.slice none 0 0) [] := World.ownsRow_nil w B _ _
theorem OwnY.below {w w' : World} {B : Nat} {v : Value} {l : List UInt8} (h : OwnY w B v l) (k : Below w.heap.size w w') : OwnY w' B v l := by
  refine ⟨h.1, ?_⟩
  rcases h.2 with hn | ⟨g, cap, cur, h1, h2, h3, h4⟩
  · exact .inl hn
  · exact .inr ⟨g, cap, cur, h1, h2, (k.block g (lt_of_block h3)).trans h3, h4⟩
set_option maxRecDepth 100000 in
theorem OwnY.conv {w : World} {B : Nat} {v : Value} {l : List UInt8} (h : OwnY w B v l) : (convert 56 9 v).run Tryd.prog w = .ok (.string (bs l)) w := by
  rcases h.2 with ⟨hv, h0⟩ | ⟨g, cap, cur, hv, hB, hh, hle, hm, hs, ht⟩
  · have : l = [] := List.length_eq_zero_iff.1 h0
    subst this
    rw [hv]
    go_simp
    rfl
  · rw [hv, run_convert_bytes_arg (P := Tryd.prog) w 56 5 Tryd.underlying56 Tryd.underlying5 g 0 l.length cap (l.map (fun b => (b.toNat : Int))) (by simp) _ 9 Tryd.underlying9, strOf_bs]
    intro i hi
    rw [Nat.zero_add, cellRow hh, ← Array.getElem?_toList]
    have h1 := congrArg (fun x : List Value => x[i]?) ht
    simp only [Nat.mul_one] at h1
    rw [List.getElem?_take_of_lt hi, byts_get l i hi] at h1
    rw [h1]
    simp [byt, List.getD, hi]
set_option maxRecDepth 100000 in
theorem yinfo : (Tryd.prog.info? 5).map (fun i => (i.zero, i.size, i.bytes)) = some (some (.int .u8 0), 1, 1) := by kernel_rfl
set_option maxRecDepth 100000 in
/-- Some bytes more. -/
theorem appY {ops : Array Oper} {rest : List Oper} {o : Oper} {a : Act} {Q : Exit → Act → World → Prop} {W : World} (hgd : o.guard = none) {s x : Operand} (ho : o.op = .call { callee := .builtin .append, args := #[s, x], argTypes := #[56, 56] })
    {B : Nat} {v : Value} {l ys : List UInt8} {cs : Array Value} (hs : a.eval s = v) (hO : OwnY W B v l) {m : Nat} (hx : a.eval x = .slice (some ⟨W.heap.size, 0, none⟩) m m) (hcs : cs.toList = byts ys) (hm : m = ys.length) (hn : l.length + ys.length ≤ 100000000) (hB : B ≤ W.heap.size)
    (h : ∀ v' w', OwnY w' B v' (l ++ ys) → (∀ y, Below B y W → Below B y w') → wpList Tryd.prog ops Q rest (a.put o.dst v') w') : wpList Tryd.prog ops Q (o :: rest) a (W.alloc (.cells cs 5)) := by
  obtain ⟨i0, hi, hz0, hz1, hz2⟩ := info_of yinfo
  subst hm
  have hC := rowNew W (.cells cs 5)
  have hsz : (W.alloc (.cells cs 5)).heap.size = W.heap.size + 1 := by simp
  refine wpList_append_own _ hgd s x 56 ho B 5 i0 (.int .u8 0) 1 1 Tryd.underlying56 hi hz0 hz1 hz2 rfl (by decide) v l.length (byts l) hs (World.ownsRow.alloc hO _) ⟨W.heap.size, 0, none⟩ ys.length ys.length (byts ys) hx (by rw [byts_len, Nat.mul_one]) ?_ ?_ (by unfold maxLen; omega) (by omega) (by rw [hsz]; omega) ?_
  · intro j u hj
    have hc := cellRow hC j
    have ha : (⟨W.heap.size, 0, none⟩ : Addr).add j = ⟨W.heap.size, j, none⟩ := by
      by_cases h : j = 0
      · subst h; simp [Addr.add]
      · simp [Addr.add, h]
    rw [ha, hc, ← Array.getElem?_toList, hcs]
    exact hj
  · intro u hu
    obtain ⟨b, _, rfl⟩ := List.mem_map.1 hu
    rfl
  · intro v' w' hown hg _
    refine h v' w' ?_ fun y b => ?_
    · unfold OwnY
      rw [List.length_append, byts_app]
      exact hown
    · exact (b.alloc hB _).grown hg (by rw [hsz]; omega) (fun k hk => (World.ownsRow.lt hO k hk).1)
end Go.Proofs.YtkobjbmjefkmgaaDoor
