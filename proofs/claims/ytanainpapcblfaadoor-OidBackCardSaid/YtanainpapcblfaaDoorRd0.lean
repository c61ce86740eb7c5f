/- A reader in a block: its bytes, its place, its code. Of no program. -/
import Derived.Test.YtanainpapcblfaaDoorOctQ
import Derived.Test.YtanainpapcblfaaDoorLib
namespace Go.Proofs.YtanainpapcblfaaDoor
open Go.RowKit P1 K
/-- A reader in block b: its bytes, its place, its code. -/
def Rdr (w : World) (b T : Nat) (s : List UInt8) (p : Nat) (c : Int) : Prop := w.heap[b]? = some (.cells #[.string (bs s), .int .i64 p, .int .i64 c] T (0, 0))
theorem Rdr.cells {w : World} {b T : Nat} {s : List UInt8} {p : Nat} {c : Int} (h : Rdr w b T s p c) :
    w.cell? ⟨b, 0, none⟩ = some (.string (bs s)) ∧ w.cell? ⟨b, 1, none⟩ = some (.int .i64 p) ∧ w.cell? ⟨b, 2, none⟩ = some (.int .i64 c) ∧ w.frozen? ⟨b, 1, none⟩ = false ∧ w.frozen? ⟨b, 2, none⟩ = false :=
  ⟨cellRow h 0, cellRow h 1, cellRow h 2, freeRow h 1, freeRow h 2⟩
theorem Rdr.setP {w : World} {b T : Nat} {s : List UInt8} {p : Nat} {c : Int} (h : Rdr w b T s p c) (q : Nat) : Rdr (w.setCell ⟨b, 1, none⟩ (.int .i64 q)) b T s q c := by
  have := rowSet h 1 (.int .i64 q); simpa [Rdr] using this
theorem Rdr.setC {w : World} {b T : Nat} {s : List UInt8} {p : Nat} {c : Int} (h : Rdr w b T s p c) (d : Int) : Rdr (w.setCell ⟨b, 2, none⟩ (.int .i64 d)) b T s p d := by
  have := rowSet h 2 (.int .i64 d); simpa [Rdr] using this

theorem Rdr.setPN {w : World} {b T : Nat} {s : List UInt8} {p : Nat} {c : Int} (h : Rdr w b T s p c) (n q : Nat) (x : Int) (hx : x = (q : Nat)) : Rdr ((w.drewN n).setCell ⟨b, 1, none⟩ (.int .i64 x)) b T s q c := by
  subst hx; exact (show Rdr (w.drewN n) b T s p c from h).setP q

end Go.Proofs.YtanainpapcblfaaDoor
