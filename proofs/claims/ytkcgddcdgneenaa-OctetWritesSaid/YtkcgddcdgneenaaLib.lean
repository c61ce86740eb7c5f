/- Small laws of the model that the walks of several layers want: a block of cells of known length, a slice of an array, bits. -/
import Derived.WalkKit
import Derived.Lib.Hide
namespace Go.Proofs.Ytkcgddcdgneenaa
open Go.RowKit
namespace K

/-- A list of bytes as a string's bytes. -/
def bs (l : List UInt8) : ByteArray := ⟨l.toArray⟩
@[go_sem] theorem bs_size (l : List UInt8) : (bs l).size = l.length := by simp [bs, ByteArray.size]
theorem bs_toList (l : List UInt8) : (bs l).data.toList = l := by simp [bs]
theorem bs_of (s : ByteArray) : bs s.data.toList = s := by simp [bs]
@[go_sem] theorem bs_append (a b : List UInt8) : bs a ++ bs b = bs (a ++ b) := by
  apply ByteArray.ext; simp [bs, ByteArray.data_append]
@[go_sem] theorem bs_list (l : List UInt8) : (bs l).toList = l := by rw [ByteArray.toList_eq, bs_toList]
theorem bs_inj {a b : List UInt8} (h : bs a = bs b) : a = b := by
  have := congrArg (fun s : ByteArray => s.data.toList) h; simpa [bs] using this
/-- The byte at a place, as a number. -/
def byt (l : List UInt8) (i : Nat) : Nat := (l[i]?.getD 0).toNat
theorem byt_lt (l : List UInt8) (i : Nat) : byt l i < 256 := UInt8.toNat_lt _
@[go_sem] theorem bs_byt (l : List UInt8) (i : Nat) (h : i < (bs l).size) : ((bs l)[i]'h).toNat = byt l i := by
  have h' : i < l.length := by rw [bs_size] at h; exact h
  simp only [byt, List.getElem?_eq_getElem h', Option.getD_some]
  congr 1
theorem byt_get (l : List UInt8) (i : Nat) (h : i < l.length) : byt l i = (l[i]).toNat := by simp [byt, List.getElem?_eq_getElem h]

/-- A byte of a number (a plain name, which the walk leaves alone). -/
def b8 (n : Nat) : UInt8 := UInt8.ofNat n
theorem b8_toNat (n : Nat) (h : n < 256) : (b8 n).toNat = n := by unfold b8; simp; omega
theorem strOf_bs (l : List UInt8) : strOfNums (l.map (fun b => (b.toNat : Int))) = bs l := by
  unfold strOfNums bs
  congr 1
  simp [List.map_map, Function.comp_def]

theorem cellRow {w : World} {b : Nat} {C : Array Value} {t : TypeId} (h : w.heap[b]? = some (.cells C t (0, 0))) (i : Nat) : w.cell? ⟨b, i, none⟩ = C[i]? := by simp [World.cell?, h]
theorem freeRow {w : World} {b : Nat} {C : Array Value} {t : TypeId} (h : w.heap[b]? = some (.cells C t (0, 0))) (i : Nat) : w.frozen? ⟨b, i, none⟩ = false := by simp [World.frozen?, h]
theorem rowSet {w : World} {b : Nat} {C : Array Value} {t : TypeId} (h : w.heap[b]? = some (.cells C t (0, 0))) (i : Nat) (u : Value) : (w.setCell ⟨b, i, none⟩ u).heap[b]? = some (.cells (C.setIfInBounds i u) t (0, 0)) := by
  simp only [World.setCell, Array.getElem?_modify, if_true, h]
  rfl
theorem rowNew (w : World) (o : Obj) : (w.alloc o).heap[w.heap.size]? = some o := by
  show (w.heap.push o)[w.heap.size]? = _
  simp

theorem run_sliceAt_arr {P : Program} (w : World) (t e : TypeId) (n : Nat) (ht : P.underlying t = some (.array n e)) (hs : (sizeOf e).run P w = .ok 1 w) (b p : Nat) (hp : p < n) :
    (Instr.sliceAt t (.pointer (some ⟨b, 0, none⟩)) (some (.int .i64 p)) none none).run P w = .ok (.slice (some ⟨b, p, none⟩) (n - p) (n - p)) w := by
  have hl : P.arrayLen t = n := by simp [Program.arrayLen, ht]
  have he : P.elem t = e := by simp [Program.elem, ht]
  rw [run_sliceAt_array_l (P := P) w t ⟨b, 0, none⟩ (by rw [hl, he]; exact ht) .i64 p (by omega) (by rw [hl]; omega), he, hs]
  simp [Result.andThen, slicedAt, hl, show ¬ n = p by omega, Addr.add]
  omega

/-- A block's cells from 'at' on are these bytes. -/
def tailIs (C : Array Value) (p : Nat) (l : List UInt8) : Prop := C.toList.drop p = l.map (fun b => Value.int .u8 b.toNat)
theorem tailIs_set {C : Array Value} {p : Nat} {l : List UInt8} (h : tailIs C (p + 1) l) (hp : p < C.size) (b : UInt8) :
    tailIs (C.setIfInBounds p (Value.int .u8 b.toNat)) p (b :: l) := by
  unfold tailIs at *
  simp only [Array.toList_setIfInBounds, List.map_cons, ← h]
  rw [List.drop_set, if_neg (by omega)]
  rw [List.drop_eq_getElem_cons (by simpa using hp)]
  simp
theorem tailIs_drop {C : Array Value} {p : Nat} {l : List UInt8} (h : tailIs C p l) (j : Nat) : tailIs C (p + j) (l.drop j) := by
  unfold tailIs at *
  rw [← List.drop_drop, h, List.map_drop]
/-- A cell of such a block. -/
theorem tailCell {w : World} {b t : Nat} {C : Array Value} {p : Nat} {l : List UInt8} (hC : w.heap[b]? = some (.cells C t (0, 0))) (ht : tailIs C p l) (i : Nat) (hi : i < l.length) :
    w.cell? ⟨b, p + i, none⟩ = some (.int .u8 (byt l i : Nat)) := by
  rw [cellRow hC]
  have h := congrArg (fun x : List Value => x[i]?) ht
  simp only [List.getElem?_drop, List.getElem?_map] at h
  rw [← Array.getElem?_toList, h]
  simp [byt, List.getElem?_eq_getElem hi]
/-- Its bytes as a string. -/
theorem run_conv_tail {P : Program} (w : World) (src e dst : TypeId) (hs : P.underlying src = some (.slice e)) (he : P.underlying e = some (.int .u8)) (hd : P.underlying dst = some .string)
    {b t : Nat} {C : Array Value} {p : Nat} {l : List UInt8} (hC : w.heap[b]? = some (.cells C t (0, 0))) (ht : tailIs C p l) (len cap : Nat) (hl : l.length = len) :
    (convert src dst (.slice (some ⟨b, p, none⟩) len cap)).run P w = .ok (.string (bs l)) w := by
  rw [run_convert_bytes_arg (P := P) w src e hs he b p len cap (l.map (fun b => (b.toNat : Int))) (by simp [hl]) _ dst hd, strOf_bs]
  intro i hi
  rw [tailCell hC ht i (by omega)]
  simp [byt, List.getD, hl, hi]

/-- 'string([]byte{b})': the block has just been made. -/
theorem run_conv_one {P : Program} (src e dst : TypeId) (hs : P.underlying src = some (.slice e)) (he : P.underlying e = some (.int .u8)) (hd : P.underlying dst = some .string) :
    ∀ (w : World) (x : Int), (convert src dst (.slice (some ⟨w.heap.size, 0, none⟩) 1 1)).run P (w.alloc (.cells #[.int .u8 x] e)) = .ok (.string (bs [b8 x.toNat])) (w.alloc (.cells #[.int .u8 x] e)) := by
  intro w x
  rw [run_convert_bytes_arg (P := P) (w.alloc (.cells #[.int .u8 x] e)) src e hs he w.heap.size 0 1 1 [x] rfl _ dst hd]
  · rfl
  · intro i hi
    obtain rfl : i = 0 := by omega
    rw [cellRow (rowNew w _)]
    rfl

theorem run_sliceAt_arr_h {P : Program} (w : World) (t e : TypeId) (n : Nat) (ht : P.underlying t = some (.array n e)) (hs : (sizeOf e).run P w = .ok 1 w) (b p : Nat) (hp : p ≤ n) (hn : 0 < n) :
    (Instr.sliceAt t (.pointer (some ⟨b, 0, none⟩)) none (some (.int .i64 p)) none).run P w = .ok (.slice (some ⟨b, 0, none⟩) p n) w := by
  have hl : P.arrayLen t = n := by simp [Program.arrayLen, ht]
  have he : P.elem t = e := by simp [Program.elem, ht]
  rw [run_sliceAt_array_h (P := P) w t ⟨b, 0, none⟩ (by rw [hl, he]; exact ht) .i64 p (by omega) (by rw [hl]; omega), he, hs]
  simp [Result.andThen, slicedAt, hl, show ¬ n = 0 by omega, Addr.add]

theorem bits_or128 (a : Int) (h0 : 0 ≤ a) (h1 : a < 128) : bits .or .u8 a 128 = a + 128 := by
  have h : ∀ i : Fin 128, bits .or .u8 (i.val : Int) 128 = (i.val : Int) + 128 := by decide +kernel
  obtain ⟨k, rfl⟩ := Int.eq_ofNat_of_zero_le h0
  exact h ⟨k, by omega⟩
end K
end Go.Proofs.Ytkcgddcdgneenaa
