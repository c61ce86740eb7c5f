/- Texts on the program and on the document, joined: Lib, LexP. -/
import Derived.WalkKit
import Derived.Lib.Hide
import Derived.Lib.ConvBytes
import Derived.Deep.QuietTactic
import Derived.BigQuiet
/- Small laws of the model that the walks of several layers want: a block of cells of known length, a slice of an array, bits. -/
namespace Go.Proofs.YtaeglmgpoboihaaGreatDoor
open Go.RowKit
namespace K

/-- A list of bytes as a string's bytes. -/
def bs (l : List UInt8) : ByteArray := ⟨l.toArray⟩
@[go_sem] theorem bs_size (l : List UInt8) : (bs l).size = l.length := by simp [bs, ByteArray.size]
theorem bs_toList (l : List UInt8) : (bs l).data.toList = l := by simp [bs]
theorem bs_of (s : ByteArray) : bs s.data.toList = s := by simp [bs]
@[go_sem] theorem bs_append (a b : List UInt8) : bs a ++ bs b = bs (a ++ b) := by
  apply ByteArray.ext; simp [bs, ByteArray.data_append]
@[go_sem] theorem bs_list (l : List UInt8) : (bs l).toList = l := by rw [ByteArray.toList_eq, bs_toList]
theorem bs_inj {a b : List UInt8} (h : bs a = bs b) : a = b := by
  have := congrArg (fun s : ByteArray => s.data.toList) h; simpa [bs] using this
/-- The byte at a place, as a number. -/
def byt (l : List UInt8) (i : Nat) : Nat := (l[i]?.getD 0).toNat
theorem byt_lt (l : List UInt8) (i : Nat) : byt l i < 256 := UInt8.toNat_lt _
@[go_sem] theorem bs_byt (l : List UInt8) (i : Nat) (h : i < (bs l).size) : ((bs l)[i]'h).toNat = byt l i := by
  have h' : i < l.length := by rw [bs_size] at h; exact h
  simp only [byt, List.getElem?_eq_getElem h', Option.getD_some]
  congr 1
@[go_sem low] theorem bs_extract (l : List UInt8) (a b : Nat) : (bs l).extract a b = bs ((l.drop a).take (b - a)) := by
  apply ByteArray.ext
  simp [bs, List.take_drop]
@[go_sem] theorem bs_extract_end (l : List UInt8) (a : Nat) : (bs l).extract a l.length = bs (l.drop a) := by
  rw [bs_extract, List.take_of_length_le (by simp)]
theorem byt_get (l : List UInt8) (i : Nat) (h : i < l.length) : byt l i = (l[i]).toNat := by simp [byt, List.getElem?_eq_getElem h]

/-- A byte of a number (a plain name, which the walk leaves alone). -/
def b8 (n : Nat) : UInt8 := UInt8.ofNat n
theorem b8_toNat (n : Nat) (h : n < 256) : (b8 n).toNat = n := by unfold b8; simp; omega
theorem strOf_bs (l : List UInt8) : strOfNums (l.map (fun b => (b.toNat : Int))) = bs l := by
  unfold strOfNums bs
  congr 1
  simp [List.map_map, Function.comp_def]

theorem cellRow {w : World} {b : Nat} {C : Array Value} {t : TypeId} (h : w.heap[b]? = some (.cells C t (0, 0))) (i : Nat) : w.cell? ⟨b, i, none⟩ = C[i]? := by simp [World.cell?, h]
theorem freeRow {w : World} {b : Nat} {C : Array Value} {t : TypeId} (h : w.heap[b]? = some (.cells C t (0, 0))) (i : Nat) : w.frozen? ⟨b, i, none⟩ = false := by simp [World.frozen?, h]
theorem rowSet {w : World} {b : Nat} {C : Array Value} {t : TypeId} (h : w.heap[b]? = some (.cells C t (0, 0))) (i : Nat) (u : Value) : (w.setCell ⟨b, i, none⟩ u).heap[b]? = some (.cells (C.setIfInBounds i u) t (0, 0)) := by
  simp only [World.setCell, Array.getElem?_modify, if_true, h]
  rfl
theorem rowNew (w : World) (o : Obj) : (w.alloc o).heap[w.heap.size]? = some o := by
  show (w.heap.push o)[w.heap.size]? = _
  simp

theorem run_sliceAt_arr {P : Program} (w : World) (t e : TypeId) (n : Nat) (ht : P.underlying t = some (.array n e)) (hs : (sizeOf e).run P w = .ok 1 w) (b p : Nat) (hp : p < n) :
    (Instr.sliceAt t (.pointer (some ⟨b, 0, none⟩)) (some (.int .i64 p)) none none).run P w = .ok (.slice (some ⟨b, p, none⟩) (n - p) (n - p)) w := by
  have hl : P.arrayLen t = n := by simp [Program.arrayLen, ht]
  have he : P.elem t = e := by simp [Program.elem, ht]
  rw [run_sliceAt_array_l (P := P) w t ⟨b, 0, none⟩ (by rw [hl, he]; exact ht) .i64 p (by omega) (by rw [hl]; omega), he, hs]
  simp [Result.andThen, slicedAt, hl, show ¬ n = p by omega, Addr.add]
  omega

/-- A block's cells from 'at' on are these bytes. -/
def tailIs (C : Array Value) (p : Nat) (l : List UInt8) : Prop := C.toList.drop p = l.map (fun b => Value.int .u8 b.toNat)
theorem tailIs_set {C : Array Value} {p : Nat} {l : List UInt8} (h : tailIs C (p + 1) l) (hp : p < C.size) (b : UInt8) :
    tailIs (C.setIfInBounds p (Value.int .u8 b.toNat)) p (b :: l) := by
  unfold tailIs at *
  simp only [Array.toList_setIfInBounds, List.map_cons, ← h]
  rw [List.drop_set, if_neg (by omega)]
  rw [List.drop_eq_getElem_cons (by simpa using hp)]
  simp
theorem tailIs_drop {C : Array Value} {p : Nat} {l : List UInt8} (h : tailIs C p l) (j : Nat) : tailIs C (p + j) (l.drop j) := by
  unfold tailIs at *
  rw [← List.drop_drop, h, List.map_drop]
/-- A cell of such a block. -/
theorem tailCell {w : World} {b t : Nat} {C : Array Value} {p : Nat} {l : List UInt8} (hC : w.heap[b]? = some (.cells C t (0, 0))) (ht : tailIs C p l) (i : Nat) (hi : i < l.length) :
    w.cell? ⟨b, p + i, none⟩ = some (.int .u8 (byt l i : Nat)) := by
  rw [cellRow hC]
  have h := congrArg (fun x : List Value => x[i]?) ht
  simp only [List.getElem?_drop, List.getElem?_map] at h
  rw [← Array.getElem?_toList, h]
  simp [byt, List.getElem?_eq_getElem hi]
/-- Its bytes as a string. -/
theorem run_conv_tail {P : Program} (w : World) (src e dst : TypeId) (hs : P.underlying src = some (.slice e)) (he : P.underlying e = some (.int .u8)) (hd : P.underlying dst = some .string)
    {b t : Nat} {C : Array Value} {p : Nat} {l : List UInt8} (hC : w.heap[b]? = some (.cells C t (0, 0))) (ht : tailIs C p l) (len cap : Nat) (hl : l.length = len) :
    (convert src dst (.slice (some ⟨b, p, none⟩) len cap)).run P w = .ok (.string (bs l)) w := by
  rw [run_convert_bytes_arg (P := P) w src e hs he b p len cap (l.map (fun b => (b.toNat : Int))) (by simp [hl]) _ dst hd, strOf_bs]
  intro i hi
  rw [tailCell hC ht i (by omega)]
  simp [byt, List.getD, hl, hi]

/-- 'string([]byte{b})': the block has just been made. -/
theorem run_conv_one {P : Program} (src e dst : TypeId) (hs : P.underlying src = some (.slice e)) (he : P.underlying e = some (.int .u8)) (hd : P.underlying dst = some .string) :
    ∀ (w : World) (x : Int), (convert src dst (.slice (some ⟨w.heap.size, 0, none⟩) 1 1)).run P (w.alloc (.cells #[.int .u8 x] e)) = .ok (.string (bs [b8 x.toNat])) (w.alloc (.cells #[.int .u8 x] e)) := by
  intro w x
  rw [run_convert_bytes_arg (P := P) (w.alloc (.cells #[.int .u8 x] e)) src e hs he w.heap.size 0 1 1 [x] rfl _ dst hd]
  · rfl
  · intro i hi
    obtain rfl : i = 0 := by omega
    rw [cellRow (rowNew w _)]
    rfl

theorem run_sliceAt_arr_h {P : Program} (w : World) (t e : TypeId) (n : Nat) (ht : P.underlying t = some (.array n e)) (hs : (sizeOf e).run P w = .ok 1 w) (b p : Nat) (hp : p ≤ n) (hn : 0 < n) :
    (Instr.sliceAt t (.pointer (some ⟨b, 0, none⟩)) none (some (.int .i64 p)) none).run P w = .ok (.slice (some ⟨b, 0, none⟩) p n) w := by
  have hl : P.arrayLen t = n := by simp [Program.arrayLen, ht]
  have he : P.elem t = e := by simp [Program.elem, ht]
  rw [run_sliceAt_array_h (P := P) w t ⟨b, 0, none⟩ (by rw [hl, he]; exact ht) .i64 p (by omega) (by rw [hl]; omega), he, hs]
  simp [Result.andThen, slicedAt, hl, show ¬ n = 0 by omega, Addr.add]

theorem run_sliceAt_arr_n {P : Program} (w : World) (t e : TypeId) (n : Nat) (ht : P.underlying t = some (.array n e)) (hs : (sizeOf e).run P w = .ok 1 w) (b : Nat) (hn : 0 < n) :
    (Instr.sliceAt t (.pointer (some ⟨b, 0, none⟩)) none none none).run P w = .ok (.slice (some ⟨b, 0, none⟩) n n) w := by
  have hl : P.arrayLen t = n := by simp [Program.arrayLen, ht]
  have he : P.elem t = e := by simp [Program.elem, ht]
  rw [run_sliceAt_array_all (P := P) w t ⟨b, 0, none⟩ (by rw [hl, he]; exact ht), he, hs]
  simp [Result.andThen, slicedAt, hl, show ¬ n = 0 by omega, Addr.add]

theorem bits_or128 (a : Int) (h0 : 0 ≤ a) (h1 : a < 128) : bits .or .u8 a 128 = a + 128 := by
  have h : ∀ i : Fin 128, bits .or .u8 (i.val : Int) 128 = (i.val : Int) + 128 := by decide +kernel
  obtain ⟨k, rfl⟩ := Int.eq_ofNat_of_zero_le h0
  exact h ⟨k, by omega⟩
/-- What happened to the blocks that were there: only those of S may have turned. -/
structure Kp (S : List Nat) (w w' : World) : Prop where
  os : w'.os = w.os
  tape : w'.tape = w.tape
  output : w'.output = w.output
  size : w.heap.size ≤ w'.heap.size
  block : ∀ k, k < w.heap.size → k ∉ S → w'.heap[k]? = w.heap[k]?
theorem Kp.refl (S : List Nat) (w : World) : Kp S w w := ⟨rfl, rfl, rfl, Nat.le_refl _, fun _ _ _ => rfl⟩
theorem Kp.trans {S : List Nat} {a b c : World} (h : Kp S a b) (k : Kp S b c) : Kp S a c :=
  ⟨k.os.trans h.os, k.tape.trans h.tape, k.output.trans h.output, Nat.le_trans h.size k.size, fun i hi hs => (k.block i (Nat.lt_of_lt_of_le hi h.size) hs).trans (h.block i hi hs)⟩
theorem Kp.mono {S S' : List Nat} {a b : World} (h : Kp S a b) (hs : ∀ x ∈ S, x ∈ S') : Kp S' a b :=
  ⟨h.os, h.tape, h.output, h.size, fun i hi hn => h.block i hi fun hm => hn (hs i hm)⟩
theorem Kp.drewN {S : List Nat} {a b : World} (h : Kp S a b) (n : Nat) : Kp S a (b.drewN n) := ⟨h.os, h.tape, h.output, h.size, h.block⟩
theorem Kp.ofDrewN {S : List Nat} {a b : World} {n : Nat} (h : Kp S (a.drewN n) b) : Kp S a b := ⟨h.os, h.tape, h.output, h.size, h.block⟩
theorem Kp.set {S : List Nat} {a b : World} (h : Kp S a b) (p : Addr) (hp : p.block ∈ S) (u : Value) : Kp S a (b.setCell p u) :=
  h.trans ⟨rfl, rfl, rfl, by simp [World.setCell], fun k hk hn => Below.heap_setCell _ _ _ _ fun e => hn (e ▸ hp)⟩
theorem Kp.alloc {S : List Nat} {a b : World} (h : Kp S a b) (o : Obj) : Kp S a (b.alloc o) :=
  h.trans ⟨rfl, rfl, rfl, by simp, fun k hk _ => Below.heap_alloc _ _ _ hk⟩
/-- Into a block that has come since. -/
theorem Kp.setNew {S : List Nat} {a b : World} (h : Kp S a b) (p : Addr) (hp : a.heap.size ≤ p.block) (u : Value) : Kp S a (b.setCell p u) :=
  ⟨h.os, h.tape, h.output, Nat.le_trans h.size (by simp [World.setCell]), fun k hk hn => (Below.heap_setCell _ _ _ _ (by omega)).trans (h.block k hk hn)⟩
theorem Kp.below {S : List Nat} {a b : World} {B : Nat} (h : Kp S a b) (hB : B ≤ a.heap.size) (hS : ∀ x ∈ S, B ≤ x) : Below B a b :=
  ⟨h.os, h.tape, h.output, h.size, fun k hk => h.block k (by omega) fun hm => by have := hS k hm; omega⟩
theorem Kp.ofBelow {a b : World} (h : Below a.heap.size a b) (S : List Nat) : Kp S a b := ⟨h.os, h.tape, h.output, h.size, fun k hk _ => h.block k hk⟩
/-- Blocks of S that lie behind what was there do not count. -/
theorem Kp.cut {S S' : List Nat} {a b : World} (h : Kp S a b) (hs : ∀ x ∈ S, x ∈ S' ∨ a.heap.size ≤ x) : Kp S' a b :=
  ⟨h.os, h.tape, h.output, h.size, fun i hi hn => h.block i hi fun hm => by rcases hs i hm with h1 | h1; exact hn h1; omega⟩
theorem lt_of_block {w : World} {b : Nat} {o : Obj} (h : w.heap[b]? = some o) : b < w.heap.size := by
  rcases Nat.lt_or_ge b w.heap.size with h' | h'
  · exact h'
  · simp [Array.getElem?_eq_none h'] at h
/-- '[]byte(s)': what it leaves. -/
theorem Kp.bytes {S : List Nat} {a w : World} (h : Kp S a w) (e : TypeId) (s : ByteArray) : Kp S a (Go.Lib.bytesWorld w e s) := by
  refine h.trans ⟨?_, ?_, ?_, by rw [Go.Lib.bytesWorld_size]; omega, fun k hk _ => Go.Lib.bytesWorld_at_old w e s k hk⟩
  all_goals (unfold Go.Lib.bytesWorld World.freeze; split <;> rfl)
theorem bytes_cell (w : World) (e : TypeId) (l : List UInt8) (j : Nat) (hj : j < l.length) : (Go.Lib.bytesWorld w e (bs l)).cell? ⟨w.heap.size, j, none⟩ = some (.int .u8 (byt l j : Nat)) := by
  rw [Go.Lib.bytesWorld_cell w e (bs l) j (by rw [bs_size]; exact hj)]
  simp [byt, bs, List.getD]
theorem Kp.drew {S : List Nat} {a b : World} (h : Kp S a b) : Kp S a b.drew := ⟨h.os, h.tape, h.output, h.size, h.block⟩
theorem Kp.ofDrew {S : List Nat} {a b : World} (h : Kp S a.drew b) : Kp S a b := ⟨h.os, h.tape, h.output, h.size, h.block⟩
theorem Kp.heap {S : List Nat} {a b : World} (h : Kp S a b) {k : Nat} {o : Obj} (hk : a.heap[k]? = some o) (hn : k ∉ S) : b.heap[k]? = some o := (h.block k (lt_of_block hk) hn).trans hk
theorem Kp.cell {S : List Nat} {a b : World} (h : Kp S a b) {p : Addr} {v : Value} (hc : a.cell? p = some v) (hn : p.block ∉ S) : b.cell? p = some v :=
  (World.cell?_of_block (h.block p.block (World.block_lt_of_cell? a p hc) hn)).trans hc
theorem heap_drewN (w : World) (n : Nat) : (w.drewN n).heap = w.heap := rfl
theorem Calls.quiet_mk {P : Program} {f : FuncId} {args : Array Value} {w : World} {n : Nat} {v : Value}
    (h : Calls P f args (w.drewN n) fun e w' => e = .returned v ∧ w.drewN n = w') : Calls P f args (w.drewN n) fun e w'' => e = .returned v ∧ ∃ m, w'' = w.drewN m :=
  h.mono fun _ _ ⟨he, hm⟩ => ⟨he, n, hm.symm⟩

theorem wrap64_eq (n : Int) : wrap64 n = (n + 9223372036854775808) % 18446744073709551616 - 9223372036854775808 := by
  simp [wrap64]
/-- 'n << 8 | b' on an int. -/
theorem bits_shl_or (X : Nat) (b : Nat) (hb : b < 256) : bits .or .i64 (wrap64 ((X : Int) * 256)) b = wrap64 ((X * 256 + b : Nat) : Int) := by
  have h1 : (BitVec.ofInt 64 (wrap64 ((X : Int) * 256))).toNat = X * 256 % 18446744073709551616 := by
    rw [BitVec.toNat_ofInt, wrap64_eq]
    omega
  have h2 : (BitVec.ofInt 64 ((b : Nat) : Int)).toNat = b := by
    rw [BitVec.toNat_ofInt]; omega
  have h3 : X * 256 % 18446744073709551616 = 2 ^ 8 * (X % 72057594037927936) := by omega
  have h4 : bits .or .i64 (wrap64 ((X : Int) * 256)) b = IntKind.i64.wrap (((BitVec.ofInt 64 (wrap64 ((X : Int) * 256))).toNat ||| (BitVec.ofInt 64 ((b : Nat) : Int)).toNat : Nat) : Int) := by
    show IntKind.i64.wrap (((BitVec.ofInt 64 (wrap64 ((X : Int) * 256)) ||| BitVec.ofInt 64 ((b : Nat) : Int)).toNat : Nat) : Int) = _
    rw [BitVec.toNat_or]
  rw [h4, h1, h2, h3, ← Nat.two_pow_add_eq_or_of_lt (by omega), IntKind.wrap_i64, wrap64_eq]
  omega
end K
end Go.Proofs.YtaeglmgpoboihaaGreatDoor
/- Words of a file of rules: plain mathematics, of no program. -/
namespace Go.Proofs.YtaeglmgpoboihaaGreatDoor
open K
set_option linter.unusedVariables false
set_option linter.unusedSimpArgs false
namespace L14
/-! ### Bytes -/
def ltN (n : Nat) : Bool := (decide (97 ≤ n) && decide (n ≤ 122)) || (decide (65 ≤ n) && decide (n ≤ 90))
def dgN (n : Nat) : Bool := decide (48 ≤ n) && decide (n ≤ 57)
def goN (k n : Nat) : Bool := ltN n || dgN n || (if k = 1 then n == 95 || n == 45 else if k = 2 then n == 46 else n == 46 || n == 95 || n == 45 || n == 35 || n == 64)
def sgN (n : Nat) : Bool := n == 123 || n == 125 || n == 40 || n == 41 || n == 59 || n == 61 || n == 43 || n == 44
def blN (n : Nat) : Bool := n == 32 || n == 9 || n == 10 || n == 13
/-- How many bytes go on with a token of a kind. -/
def run (k : Nat) : List UInt8 → Nat
  | [] => 0
  | c :: t => if goN k c.toNat then run k t + 1 else 0
theorem run_le (k : Nat) : ∀ s, run k s ≤ s.length
  | [] => Nat.le_refl _
  | c :: t => by
    have := run_le k t
    simp only [run]; split <;> simp <;> omega
theorem run_whole {k : Nat} : ∀ {t : List UInt8}, run k t = t.length → ∀ x r, goN k x.toNat = false → run k (t ++ x :: r) = t.length
  | [], _, x, r, h => by simp [run, h]
  | c :: t, hw, x, r, h => by
    simp only [run] at hw
    split at hw
    · next hc =>
      simp only [List.length_cons, Nat.add_right_cancel_iff] at hw
      simp only [List.cons_append, run, if_pos hc, run_whole hw x r h, List.length_cons]
    · simp at hw
theorem run_take (k : Nat) : ∀ s : List UInt8, run k (s.take (run k s)) = run k s
  | [] => rfl
  | c :: t => by
    by_cases h : goN k c.toNat = true
    · simp only [run, if_pos h, List.take_succ_cons, run_take k t]
    · simp only [run, if_neg h, List.take_zero]
theorem run_pos {k : Nat} {c : UInt8} {t : List UInt8} (h : goN k c.toNat = true) : run k (c :: t) = run k t + 1 := by simp only [run, if_pos h]
/-! ### Texts -/
def nib (n : Nat) : Option Nat := if dgN n then some (n - 48) else if 97 ≤ n ∧ n ≤ 102 then some (n - 97 + 10) else if 65 ≤ n ∧ n ≤ 70 then some (n - 65 + 10) else none
def esc : List UInt8 → Option (UInt8 × Nat)
  | [] => none
  | c :: t => if c = 34 ∨ c = 92 then some (c, 1) else if c = 110 then some (10, 1) else if c = 116 then some (9, 1) else if c = 120 then
      (match t with
      | h :: l :: _ => (match nib h.toNat, nib l.toNat with | some a, some b => some (UInt8.ofNat (a * 16 + b), 3) | _, _ => none)
      | _ => none)
    else none
theorem esc_n {s : List UInt8} {b : UInt8} {n : Nat} (h : esc s = some (b, n)) : 1 ≤ n ∧ n ≤ s.length := by
  cases s with
  | nil => cases h
  | cons c t =>
    simp only [esc] at h
    split at h
    · injection h with h; injection h with _ h; subst h; simp
    · split at h
      · injection h with h; injection h with _ h; subst h; simp
      · split at h
        · injection h with h; injection h with _ h; subst h; simp
        · split at h
          · split at h
            · split at h
              · injection h with h; injection h with _ h; subst h; simp
              · cases h
            · cases h
          · cases h
def txt : Nat → List UInt8 → Option (List UInt8 × Nat)
  | 0, _ => none
  | _ + 1, [] => none
  | f + 1, c :: t => if c = 34 then some ([], 1) else if c.toNat < 32 then none else if c = 92 then
      (match esc t with
      | none => none
      | some (b, n) => (txt f (t.drop n)).map fun y => (b :: y.1, y.2 + 1 + n))
    else (txt f t).map fun y => (c :: y.1, y.2 + 1)
def text (s : List UInt8) : Option (List UInt8 × Nat) := txt (s.length + 1) s
theorem txt_more : ∀ (f g : Nat) (s : List UInt8), s.length < f → s.length < g → txt f s = txt g s
  | 0, _, _, h, _ => by omega
  | _ + 1, 0, _, _, h => by omega
  | f + 1, g + 1, [], _, _ => rfl
  | f + 1, g + 1, c :: t, h1, h2 => by
    simp only [List.length_cons] at h1 h2
    simp only [txt]
    rw [txt_more f g t (by omega) (by omega)]
    split
    · rfl
    · split
      · rfl
      · split
        · cases he : esc t with
          | none => rfl
          | some y =>
            obtain ⟨b, n⟩ := y
            simp only
            rw [txt_more f g (t.drop n) (by rw [List.length_drop]; omega) (by rw [List.length_drop]; omega)]
        · rfl
theorem txt_n : ∀ (f : Nat) (s o : List UInt8) (n : Nat), txt f s = some (o, n) → 1 ≤ n ∧ n ≤ s.length
  | 0, _, _, _, h => by cases h
  | f + 1, [], _, _, h => by cases h
  | f + 1, c :: t, o, n, h => by
    simp only [txt] at h
    split at h
    · injection h with h; injection h with _ h; subst h; simp
    · split at h
      · cases h
      · split at h
        · cases he : esc t with
          | none => rw [he] at h; cases h
          | some y =>
            obtain ⟨b, k⟩ := y
            rw [he] at h
            simp only at h
            obtain ⟨z, hz, h⟩ := Option.map_eq_some_iff.1 h
            obtain ⟨z1, z2⟩ := z
            have := txt_n f _ _ _ hz
            have he' := esc_n he
            injection h with _ h
            rw [List.length_drop] at this
            simp only at h
            subst h
            simp only [List.length_cons]; omega
        · obtain ⟨z, hz, h⟩ := Option.map_eq_some_iff.1 h
          obtain ⟨z1, z2⟩ := z
          have := txt_n f _ _ _ hz
          injection h with _ h
          simp only at h
          subst h
          simp only [List.length_cons]; omega
theorem text_n {s o : List UInt8} {n : Nat} (h : text s = some (o, n)) : 1 ≤ n ∧ n ≤ s.length := txt_n _ _ _ _ h
/-! ### A token at the beginning -/
def nxt : List UInt8 → Option ((Nat × List UInt8) × Nat)
  | [] => none
  | c :: t =>
    if sgN c.toNat then some ((5, [c]), 1)
    else if ltN c.toNat then some ((1, (c :: t).take (run 1 (c :: t))), run 1 (c :: t))
    else if dgN c.toNat then some ((2, (c :: t).take (run 2 (c :: t))), run 2 (c :: t))
    else if c = 36 then (if run 3 t = 0 then none else some ((3, t.take (run 3 t)), run 3 t + 1))
    else if c = 34 then (text t).map fun y => ((4, y.1), y.2 + 1)
    else none
theorem lt_go {k n : Nat} (h : ltN n = true) : goN k n = true := by unfold goN; rw [h]; rfl
theorem dg_go {k n : Nat} (h : dgN n = true) : goN k n = true := by unfold goN; rw [h, Bool.or_true]; rfl
theorem nxt_n {s : List UInt8} {k : Nat} {t : List UInt8} {n : Nat} (h : nxt s = some ((k, t), n)) : 1 ≤ n ∧ n ≤ s.length := by
  cases s with
  | nil => cases h
  | cons c r =>
    simp only [nxt] at h
    split at h
    · injection h with h; injection h with _ h; subst h; simp
    · split at h
      · next h1 =>
        injection h with h; injection h with _ h; subst h
        refine ⟨by rw [run_pos (lt_go h1)]; omega, run_le _ _⟩
      · split at h
        · next h1 =>
          injection h with h; injection h with _ h; subst h
          refine ⟨by rw [run_pos (dg_go h1)]; omega, run_le _ _⟩
        · split at h
          · split at h
            · cases h
            · injection h with h; injection h with _ h; subst h
              have := run_le 3 r
              simp only [List.length_cons]; omega
          · split at h
            · obtain ⟨y, hy, h⟩ := Option.map_eq_some_iff.1 h
              obtain ⟨o, m⟩ := y
              have := text_n hy
              injection h with _ h
              simp only at h
              subst h
              simp only [List.length_cons]; omega
            · cases h
/-! ### Blanks and remarks -/
def skp : Bool → List UInt8 → Nat
  | _, [] => 0
  | r, c :: t => if r || c == 35 || blN c.toNat then skp (if c = 10 then false else if c = 35 then true else r) t + 1 else 0
theorem skp_le : ∀ (r : Bool) (s : List UInt8), skp r s ≤ s.length
  | _, [] => Nat.le_refl _
  | r, c :: t => by
    have := skp_le (if c = 10 then false else if c = 35 then true else r) t
    simp only [skp]; split <;> simp only [List.length_cons] <;> omega
def nls (s : List UInt8) : Nat := s.countP (· == 10)
theorem nls_app (a b : List UInt8) : nls (a ++ b) = nls a + nls b := by simp [nls]
/-! ### A file's tokens -/
structure Tk where
  k : Nat
  t : List UInt8
  l : Nat
deriving DecidableEq
/-- What is left behind the blanks, and the line there. -/
def rst (s : List UInt8) : List UInt8 := s.drop (skp false s)
def lin (ln : Nat) (s : List UInt8) : Nat := ln + nls (s.take (skp false s))
/-- The tokens of a text, of which m more may come, from a line on; or where it is wrong, and why. -/
def sp : Nat → Nat → Nat → List UInt8 → Except (Nat × Nat) (List Tk)
  | 0, _, _, _ => .ok []
  | f + 1, m, ln, s =>
    if rst s = [] then .ok []
    else match nxt (rst s) with
      | none => .error (lin ln s, 140)
      | some ((k, t), n) => match m with
        | 0 => .error (lin ln s, 2)
        | m + 1 => match sp f m (lin ln s) ((rst s).drop n) with
          | .error e => .error e
          | .ok l => .ok (⟨k, t, lin ln s⟩ :: l)
theorem rst_len (s : List UInt8) : (rst s).length ≤ s.length := by unfold rst; rw [List.length_drop]; omega
theorem sp_more : ∀ (f g m ln : Nat) (s : List UInt8), s.length < f → s.length < g → sp f m ln s = sp g m ln s
  | 0, _, _, _, _, h, _ => by omega
  | _ + 1, 0, _, _, _, _, h => by omega
  | f + 1, g + 1, m, ln, s, h1, h2 => by
    simp only [sp]
    split
    · rfl
    · cases hx : nxt (rst s) with
      | none => rfl
      | some y =>
        obtain ⟨⟨k, t⟩, n⟩ := y
        cases m with
        | zero => rfl
        | succ m =>
          have := nxt_n hx
          have := rst_len s
          simp only
          rw [sp_more f g m (lin ln s) ((rst s).drop n) (by rw [List.length_drop]; omega) (by rw [List.length_drop]; omega)]
/-- A text's tokens. -/
def split (m ln : Nat) (s : List UInt8) : Except (Nat × Nat) (List Tk) := sp (s.length + 1) m ln s
theorem split_end {m ln : Nat} {s : List UInt8} (h : rst s = []) : split m ln s = .ok [] := by unfold split; simp only [sp, if_pos h]
theorem split_no {m ln : Nat} {s : List UInt8} (h : ¬ rst s = []) (hx : nxt (rst s) = none) : split m ln s = .error (lin ln s, 140) := by unfold split; simp only [sp, if_neg h, hx]
theorem split_full {ln : Nat} {s : List UInt8} {y : (Nat × List UInt8) × Nat} (h : ¬ rst s = []) (hx : nxt (rst s) = some y) : split 0 ln s = .error (lin ln s, 2) := by unfold split; simp only [sp, if_neg h, hx]
theorem split_go {m ln : Nat} {s : List UInt8} {k : Nat} {t : List UInt8} {n : Nat} (h : ¬ rst s = []) (hx : nxt (rst s) = some ((k, t), n)) :
    split (m + 1) ln s = (match split m (lin ln s) ((rst s).drop n) with | .error e => .error e | .ok l => .ok (⟨k, t, lin ln s⟩ :: l)) := by
  have hn := nxt_n hx
  have hl := rst_len s
  have e := sp_more s.length (((rst s).drop n).length + 1) m (lin ln s) ((rst s).drop n) (by rw [List.length_drop]; omega) (by omega)
  unfold split
  rw [← e]
  simp only [sp, if_neg h, hx]
end L14
end Go.Proofs.YtaeglmgpoboihaaGreatDoor
